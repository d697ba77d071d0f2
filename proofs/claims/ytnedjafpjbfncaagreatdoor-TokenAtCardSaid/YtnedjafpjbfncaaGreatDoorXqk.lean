/-
  Contract, the document's side: upTo.
  Contract: the document's Read of escapes.
  Mathematics of references: each style against what the document says.
  Mathematics of references: all lengths tried one by one, and the styles, find the same.
  Mathematics of references: what lies within one, both ways.
  Mathematics of references: where one ends; all lengths tried one by one; what lies within.
  Contract, the document's side: virguleref16.Read.
  Contract, the document's side: virguleref16.Whole.
  Contracts: entity.Names, virguleref16.Names.
  Contracts, the document's side: virguleref16.digit, virguleref16.Number.
  Contract: virguleref19.ends.
  Contracts, the document's side: Blank, Letter, Lower.
  The document's word for the end of raw bytes; what is not closed ends the bytes.
  Tokens from a place on.
-/
import Derived.Great.BuildSlice
import Derived.Test.YtnedjafpjbfncaaGreatDoorXqa
import Derived.Test.YtnedjafpjbfncaaGreatDoorXqb
import Derived.Test.YtnedjafpjbfncaaGreatDoorXqc
import Derived.Test.YtnedjafpjbfncaaGreatDoorXqd
import Derived.Test.YtnedjafpjbfncaaGreatDoorXqe
import Derived.Test.YtnedjafpjbfncaaGreatDoorXqf
import Derived.Test.YtnedjafpjbfncaaGreatDoorXqg
import Derived.Test.YtnedjafpjbfncaaGreatDoorXqh
import Derived.Test.YtnedjafpjbfncaaGreatDoorXqi
import Derived.Test.YtnedjafpjbfncaaGreatDoorXqj
namespace Go.Proofs.YtnedjafpjbfncaaGreatDoor
open Go.RowKit Go.Shelf Go.Lib Go.Maps Go.Great
attribute [local irreducible] NR ZNR FR nmE

def shT (a : Nat) (x : TK) : TK := ⟨x.kind, x.fr + a, x.to + a, x.name, x.r, x.sg⟩
theorem readE_drop (xs : List Nat) (a k : Nat) (h : a + k ≤ xs.length) : readE (xs.drop a) (k : Int) = readE xs ((a + k : Nat) : Int) := by
  unfold readE
  have e1 : (xs.drop a).drop (Int.toNat (k : Int)) = xs.drop (Int.toNat ((a + k : Nat) : Int)) := by
    rw [List.drop_drop, Int.toNat_natCast, Int.toNat_natCast]
  rw [e1, List.length_drop]
  have e2 : (xs.drop a).getD (Int.toNat (k : Int)) 0 = xs.getD (Int.toNat ((a + k : Nat) : Int)) 0 := by
    rw [List.getD_eq_getElem?_getD, List.getD_eq_getElem?_getD, List.getElem?_drop, Int.toNat_natCast, Int.toNat_natCast]
  rw [e2]
  by_cases c : a + k < xs.length
  · rw [if_neg (show ¬ ((k : Int) < 0 ∨ ((xs.length - a : Nat) : Int) ≤ (k : Int)) by omega), if_neg (show ¬ (((a + k : Nat) : Int) < 0 ∨ (xs.length : Int) ≤ ((a + k : Nat) : Int)) by omega)]
  · rw [if_pos (show (k : Int) < 0 ∨ ((xs.length - a : Nat) : Int) ≤ (k : Int) by omega), if_pos (show ((a + k : Nat) : Int) < 0 ∨ (xs.length : Int) ≤ ((a + k : Nat) : Int) by omega)]
theorem markT_drop (xs : List Nat) (a k : Nat) (h : a + k ≤ xs.length) : markT xs (a + k) = (markT (xs.drop a) k).map (shT a) := by
  unfold markT
  rw [List.drop_drop, ← readE_drop xs a k h]
  cases e : G.rdT (xs.drop (a + k)) with
  | some T => simp [shT]; omega
  | none =>
    dsimp only
    split
    · simp [shT]; omega
    · split
      · simp [shT]; omega
      · rfl
theorem scanR_sh (nm : List Nat) (a : Nat) : ∀ (l : List Nat) (k : Nat), scanR nm l (k + a) = scanR nm l k + a
  | [], k => rfl
  | c :: r, k => by
    have ih := scanR_sh nm a r (k + 1)
    rw [scanR, scanR]
    split
    · rfl
    · rw [← ih]
      congr 1
      omega
theorem isRaw_sh (a : Nat) (x : TK) : isRaw (shT a x) = isRaw x := rfl
theorem rawT_sh (xs : List Nat) (a : Nat) (x : TK) : rawT xs (shT a x) = rawT (xs.drop a) x + a := by
  unfold rawT
  rw [isRaw_sh]
  split
  · show scanR x.name (xs.drop (x.to + a)) (x.to + a) = _
    rw [scanR_sh, List.drop_drop, Nat.add_comm x.to a]
  · rfl
theorem rawTok_sh (xs : List Nat) (a : Nat) (x : TK) : rawTok xs (shT a x) = (rawTok (xs.drop a) x).map (shT a) := by
  unfold rawTok
  rw [rawT_sh]
  show (if x.to + a < rawT (xs.drop a) x + a then [(⟨7, x.to + a, rawT (xs.drop a) x + a, [], 0, false⟩ : TK)] else []) = _
  by_cases h : x.to < rawT (xs.drop a) x
  · rw [if_pos (by omega), if_pos h]
    rfl
  · rw [if_neg (by omega), if_neg h]
    rfl
theorem marksL_sh (xs : List Nat) (a : Nat) (ha : a ≤ xs.length) : ∀ (d k : Nat), (xs.drop a).length - k = d → k ≤ (xs.drop a).length → marksL xs (a + k) = (marksL (xs.drop a) k).map (shT a) := by
  intro d
  induction d using Nat.strongRecOn with
  | _ d ih =>
    intro k hd hk
    have hl : (xs.drop a).length = xs.length - a := List.length_drop
    by_cases h : k < (xs.drop a).length
    case neg => rw [marksL_end h, marksL_end (by omega)]; rfl
    case pos =>
      have hm := markT_drop xs a k (by omega)
      cases e : markT (xs.drop a) k with
      | none =>
        rw [e] at hm
        rw [marksL_none h e, marksL_none (by omega) hm]
        exact ih _ (by omega) (k + 1) rfl (by omega)
      | some t =>
        rw [e] at hm
        have h1 := mark_to (by omega) e
        have h2 := rawT_le (xs := xs.drop a) (x := t) h1.2.2.1
        rw [marksL_some h e, marksL_some (by omega) hm, rawT_sh, rawTok_sh, Nat.add_comm (rawT (xs.drop a) t) a, ih _ (by omega) (rawT (xs.drop a) t) rfl h2.2]
        simp
theorem outF_sh (a : Nat) : ∀ (l : List TK) (e : Nat), outF (e + a) (l.map (shT a)) = (outF e l).map (shT a)
  | [], _ => rfl
  | t :: r, e => by
    have ih := outF_sh a r t.to
    show txs (e + a) (t.fr + a) ++ (shT a t :: outF (t.to + a) (r.map (shT a))) = (txs e t.fr ++ (t :: outF t.to r)).map (shT a)
    rw [ih]
    unfold txs
    by_cases h : e < t.fr
    · rw [if_pos h, if_pos (by omega)]
      rfl
    · rw [if_neg h, if_neg (by omega)]
      rfl
theorem endF_sh (a : Nat) : ∀ (l : List TK) (e : Nat), endF (e + a) (l.map (shT a)) = endF e l + a
  | [], _ => rfl
  | t :: r, _ => endF_sh a r t.to
/-- The tokens from a place on. -/
def fromF (xs : List Nat) (k : Nat) : List TK := outF k (marksL xs k) ++ txs (endF k (marksL xs k)) xs.length
theorem fromF_zero (xs : List Nat) : eachL xs = fromF xs 0 := rfl
theorem fromF_sh (xs : List Nat) (a : Nat) (ha : a ≤ xs.length) : fromF xs a = (eachL (xs.drop a)).map (shT a) := by
  have hl : (xs.drop a).length = xs.length - a := List.length_drop
  have hm := marksL_sh xs a ha _ 0 rfl (Nat.zero_le _)
  unfold fromF eachL
  rw [Nat.add_zero] at hm
  rw [hm, hl, List.map_append]
  have h1 := outF_sh a (marksL (xs.drop a) 0) 0
  have h2 := endF_sh a (marksL (xs.drop a) 0) 0
  rw [Nat.zero_add] at h1 h2
  rw [h1, h2]
  congr 1
  unfold txs
  by_cases h : endF 0 (marksL (xs.drop a) 0) < xs.length - a
  · rw [if_pos h, if_pos (by omega)]
    simp [shT, txT]
    omega
  · rw [if_neg h, if_neg (by omega)]
    rfl
theorem fromF_end {xs : List Nat} {k : Nat} (h : ¬ k < xs.length) (_hk : k ≤ xs.length) : fromF xs k = [] := by
  unfold fromF
  rw [marksL_end h]
  show txs k xs.length = []
  unfold txs
  rw [if_neg h]
/-- Up to the next mark there is one text. -/
theorem fromF_text {xs : List Nat} : ∀ (d k e : Nat), xs.length - k = d → e < k → k ≤ xs.length → ∃ k', e < k' ∧ k' ≤ xs.length ∧ outF e (marksL xs k) ++ txs (endF e (marksL xs k)) xs.length = txT e k' :: fromF xs k' := by
  intro d
  induction d using Nat.strongRecOn with
  | _ d ih =>
    intro k e hd he hk
    by_cases h : k < xs.length
    case neg =>
      refine ⟨xs.length, by omega, Nat.le_refl _, ?_⟩
      rw [marksL_end h, fromF_end (by omega) (Nat.le_refl _)]
      show txs e xs.length = _
      unfold txs
      rw [if_pos (by omega)]
    case pos =>
      cases hm : markT xs k with
      | none =>
        rw [marksL_none h hm]
        exact ih _ (by omega) (k + 1) e rfl (by omega) (by omega)
      | some t =>
        have h1 := mark_to (by omega) hm
        refine ⟨k, he, hk, ?_⟩
        unfold fromF
        rw [marksL_some h hm]
        show (txs e t.fr ++ (t :: outF t.to _)) ++ txs (endF t.to _) xs.length = txT e k :: ((txs k t.fr ++ (t :: outF t.to _)) ++ txs (endF t.to _) xs.length)
        rw [h1.1]
        have e1 : txs e k = [txT e k] := by unfold txs; rw [if_pos he]
        have e2 : txs k k = [] := by unfold txs; rw [if_neg (Nat.lt_irrefl _)]
        rw [e1, e2]
        rfl
theorem fromF_step {xs : List Nat} {k : Nat} (h : k < xs.length) : ∃ x k', x.fr = k ∧ k < k' ∧ k' ≤ xs.length ∧ (fromF xs k = x :: fromF xs k' ∨ ∃ r, r.kind = 7 ∧ fromF xs k = x :: r :: fromF xs k') := by
  cases hm : markT xs k with
  | none =>
    obtain ⟨k', h1, h2, h3⟩ := fromF_text (xs := xs) _ (k + 1) k rfl (by omega) (by omega)
    refine ⟨txT k k', k', rfl, h1, h2, .inl ?_⟩
    rw [← h3]
    unfold fromF
    rw [marksL_none h hm]
  | some t =>
    have h1 := mark_to (by omega) hm
    have h2 := rawT_le (xs := xs) (x := t) h1.2.2.1
    have e2 : txs k t.fr = [] := by unfold txs; rw [h1.1, if_neg (Nat.lt_irrefl _)]
    refine ⟨t, rawT xs t, h1.1, by omega, h2.2, ?_⟩
    by_cases hr : t.to < rawT xs t
    · have e1 : rawTok xs t = [⟨7, t.to, rawT xs t, [], 0, false⟩] := by unfold rawTok; rw [if_pos hr]
      refine .inr ⟨⟨7, t.to, rawT xs t, [], 0, false⟩, rfl, ?_⟩
      have e3 : txs t.to t.to = [] := by unfold txs; rw [if_neg (Nat.lt_irrefl _)]
      unfold fromF
      rw [marksL_some h hm, e1]
      show (txs k t.fr ++ (t :: (txs t.to t.to ++ (⟨7, t.to, rawT xs t, [], 0, false⟩ :: outF (rawT xs t) (marksL xs (rawT xs t)))))) ++ txs (endF (rawT xs t) (marksL xs (rawT xs t))) xs.length = _
      rw [e2, e3]
      rfl
    · have e1 : rawTok xs t = [] := by unfold rawTok; rw [if_neg hr]
      have e4 : rawT xs t = t.to := by omega
      refine .inl ?_
      unfold fromF
      rw [marksL_some h hm, e1, e4]
      show (txs k t.fr ++ (t :: outF t.to (marksL xs t.to))) ++ txs (endF t.to (marksL xs t.to)) xs.length = _
      rw [e2]
      rfl
/-- From a token on that is no raw bytes. -/
theorem fromF_drop {xs : List Nat} : ∀ (d k : Nat), xs.length - k = d → k ≤ xs.length → ∀ (i : Nat) (x : TK), (fromF xs k)[i]? = some x → x.kind ≠ 7 → (fromF xs k).drop i = fromF xs x.fr := by
  intro d
  induction d using Nat.strongRecOn with
  | _ d ih =>
    intro k hd hk i x hx h7
    by_cases h : k < xs.length
    case neg => rw [fromF_end h hk] at hx; simp at hx
    case pos =>
      obtain ⟨y, k', y1, y2, y3, hy⟩ := fromF_step h
      have IH := ih (xs.length - k') (by omega) k' rfl y3
      cases i with
      | zero =>
        rcases hy with e | ⟨r, _, e⟩
        · rw [e] at hx
          simp at hx
          subst hx
          rw [y1]
          rfl
        · rw [e] at hx
          simp at hx
          subst hx
          rw [y1]
          rfl
      | succ i =>
        rcases hy with e | ⟨r, hr, e⟩
        · rw [e] at hx ⊢
          exact IH i x (by simpa using hx) h7
        · rw [e] at hx ⊢
          cases i with
          | zero =>
            simp at hx
            subst hx
            exact absurd hr h7
          | succ i => exact IH i x (by simpa using hx) h7
theorem parts_math {xs : List Nat} {i : Nat} {x : TK} (hx : (eachL xs)[i]? = some x) (h7 : x.kind ≠ 7) (hf : x.fr ≤ xs.length) : (eachL xs).drop i = (eachL (xs.drop x.fr)).map (shT x.fr) := by
  rw [← fromF_sh xs x.fr hf]
  exact fromF_drop (xs := xs) _ 0 rfl (Nat.zero_le _) i x hx h7
theorem parts_at {xs : List Nat} {i n : Nat} {x y : TK} (hx : (eachL xs)[i]? = some x) (h7 : x.kind ≠ 7) (hf : x.fr ≤ xs.length) (hy : (eachL (xs.drop x.fr))[n]? = some y) : (eachL xs)[i + n]? = some (shT x.fr y) := by
  rw [← List.getElem?_drop, parts_math hx h7 hf, List.getElem?_map, hy]
  rfl
theorem parts_len {xs : List Nat} {i : Nat} {x : TK} (hx : (eachL xs)[i]? = some x) (h7 : x.kind ≠ 7) (hf : x.fr ≤ xs.length) : (eachL (xs.drop x.fr)).length = (eachL xs).length - i := by
  have := congrArg List.length (parts_math hx h7 hf)
  rw [List.length_drop, List.length_map] at this
  exact this.symm
theorem tiles_at : ∀ (l : List TK) (e E i : Nat) (x : TK), tiles e l E → l[i]? = some x → x.fr < x.to ∧ x.to ≤ E
  | [], _, _, _, _, _, h => by simp at h
  | t :: r, e, E, 0, x, h, hx => by
    simp at hx
    subst hx
    have := tiles_len r t.to E h.2.2
    exact ⟨by rw [h.1]; exact h.2.1, by omega⟩
  | t :: r, e, E, i + 1, x, h, hx => tiles_at r t.to E i x h.2.2 (by simpa using hx)
end Go.Proofs.YtnedjafpjbfncaaGreatDoor

namespace Go.Proofs.YtnedjafpjbfncaaGreatDoor
open Go.RowKit Go.Shelf Go.Lib Go.Maps Go.Great

def dlm (c : Nat) : Bool := G.blkB c || c == 47 || c == 62
theorem step_keep (s : G.RS) (c : Nat) (h : s.st ≠ 0) : (G.refStep s c).1.tn = s.tn ∧ (G.refStep s c).1.st ≠ 0 := by
  obtain ⟨st, sl, tn, nm, vl, q, al⟩ := s
  unfold G.refStep
  dsimp only at h ⊢
  split
  · exact absurd rfl h
  all_goals
    repeat' split
    all_goals simp_all
theorem name_keep (N k : Nat) : ∀ (l : List Nat) (s : G.RS), s.st ≠ 0 → (G.refGo N k s l).name = s.tn
  | [], s, _ => rfl
  | c :: t, s, h => by
    obtain ⟨h1, h2⟩ := step_keep s c h
    unfold G.refGo
    split
    · exact h1
    · rw [name_keep N k t _ h2, h1]
theorem name_zero (N k : Nat) : ∀ (l : List Nat) (s : G.RS), s.st = 0 → (G.refGo N k s l).name = s.tn ++ G.lowL (l.takeWhile (fun c => !dlm c))
  | [], s, _ => by simp [G.refGo, G.refEnd, G.lowL]
  | c :: t, s, h => by
    obtain ⟨st, sl, tn, nm, vl, q, al⟩ := s
    dsimp only at h
    subst h
    cases hd : dlm c with
    | true =>
      have e : G.refStep ⟨0, sl, tn, nm, vl, q, al⟩ c = (⟨1, c == 47, tn, nm, vl, q, al⟩, c == 62) := by
        show (if G.blkB c || c == 47 || c == 62 then _ else _) = _
        rw [if_pos (by unfold dlm at hd; exact hd)]
      rw [List.takeWhile_cons_of_neg (by simp [hd])]
      unfold G.refGo
      rw [e]
      split
      · simp [G.lowL]
      · rw [name_keep N k t _ (by simp)]
        simp [G.lowL]
    | false =>
      have e : G.refStep ⟨0, sl, tn, nm, vl, q, al⟩ c = (⟨0, sl, tn ++ [G.lowN c], nm, vl, q, al⟩, c == 62) := by
        show (if G.blkB c || c == 47 || c == 62 then _ else _) = _
        rw [if_neg (by unfold dlm at hd; simp [hd])]
      have h62 : (c == 62) = false := by unfold dlm at hd; simp at hd; simp [hd.2]
      rw [List.takeWhile_cons_of_pos (by simp [hd])]
      unfold G.refGo
      rw [e, h62]
      simp only [Bool.false_eq_true, if_false]
      rw [name_zero N k t _ rfl]
      simp [G.lowL]
theorem closed_size (N k : Nat) : ∀ (l : List Nat) (s : G.RS), (G.refGo N k s l).closed = false → (G.refGo N k s l).size = N
  | [], s, _ => rfl
  | c :: t, s, h => by
    unfold G.refGo at h ⊢
    split at h
    · simp at h
    · rename_i hc
      rw [if_neg hc]
      exact closed_size N k t _ h
/-- A start tag that no > closes is all that is left. -/
theorem rdT_closed {l : List Nat} {T : G.TG} (h : G.rdT l = some T) (hk : T.kind = 0) (hc : T.closed = false) : T.size = l.length := by
  unfold G.rdT at h
  split at h
  · split at h
    · cases h
    · split at h
      · cases h
        rw [closed_size _ _ _ _ hc]
        simp
      · split at h
        · cases h
          rw [refGo_kind] at hk
          cases hk
        · split at h
          · cases h
            rw [upGo_kind] at hk
            cases hk
          · split at h
            · cases h
              rw [upGo_kind] at hk
              cases hk
            · cases h
  · cases h
/-- Do raw bytes of a name end where a list begins: the document's word. -/
def endsD (l nm : List Nat) : Bool := decide (nm.length + 2 ≤ l.length) && (G.lowL (l.take (nm.length + 2)) == 60 :: 47 :: nm) && (decide (l.length = nm.length + 2) || dlm (l.getD (nm.length + 2) 0))
theorem low_ltr {c d : Nat} (h : G.lowN c = d) (hd : 97 ≤ d ∧ d ≤ 122) : G.ltrB c = true ∧ dlm c = false := by
  unfold G.lowN at h
  unfold G.ltrB dlm G.blkB
  split at h <;> simp <;> omega
theorem low_id {c d : Nat} (h : G.lowN c = d) (hd : d < 65) : c = d := by
  unfold G.lowN at h
  split at h <;> omega
theorem u8s_eq {a b : List Nat} (ha : ∀ x ∈ a, x < 256) (hb : ∀ x ∈ b, x < 256) (h : G.u8s a = G.u8s b) : a = b := by
  have h2 : (G.u8s a).map UInt8.toNat = (G.u8s b).map UInt8.toNat := by rw [h]
  have e : ∀ l : List Nat, (∀ x ∈ l, x < 256) → (G.u8s l).map UInt8.toNat = l := fun l hl => by
    unfold G.u8s
    rw [List.map_map]
    refine (List.map_congr_left (fun x hx => ?_)).trans (List.map_id l)
    have := hl x hx
    simp
    omega
  rw [e a ha, e b hb] at h2
  exact h2
theorem rdT_one {s : List Nat} {T : G.TG} (h : G.rdT s = some T) (hk : T.kind = 1) : ∃ c r, s = 60 :: 47 :: c :: r ∧ G.ltrB c = true := by
  unfold G.rdT at h
  split at h
  · rename_i d c t
    split at h
    · cases h
    · rename_i hd
      obtain rfl : d = 60 := by omega
      split at h
      · cases h
        rw [refGo_kind] at hk
        cases hk
      · split at h
        · rename_i hc
          obtain ⟨rfl, hh⟩ := hc
          cases t with
          | nil => simp at hh
          | cons x r => exact ⟨x, r, rfl, by simpa using hh⟩
        · split at h
          · cases h
            rw [upGo_kind] at hk
            cases hk
          · split at h
            · cases h
              rw [upGo_kind] at hk
              cases hk
            · cases h
  · cases h
theorem tw_mem {p : Nat → Bool} : ∀ {l : List Nat} {x : Nat}, x ∈ l.takeWhile p → p x = true
  | [], _, h => by simp at h
  | a :: l, x, h => by
    cases ha : p a with
    | true =>
      rw [List.takeWhile_cons_of_pos ha] at h
      rcases List.mem_cons.1 h with rfl | h
      · exact ha
      · exact tw_mem h
    | false => rw [List.takeWhile_cons_of_neg (by simp [ha])] at h; simp at h
theorem tw_all {p : Nat → Bool} : ∀ {l : List Nat}, (∀ x ∈ l, p x = true) → l.takeWhile p = l
  | [], _ => rfl
  | a :: l, h => by rw [List.takeWhile_cons_of_pos (h a (by simp)), tw_all (fun x hx => h x (by simp [hx]))]
theorem endR_D {l nm : List Nat} (hl : ∀ x ∈ l, x < 256) (hn : ∀ c ∈ nm, 97 ≤ c ∧ c ≤ 122) (h0 : nm ≠ []) : endR l nm = endsD l nm := by
  by_cases H : ∃ c r, l = 60 :: 47 :: c :: r ∧ G.ltrB c = true
  case neg =>
    have e1 : endR l nm = false := by
      unfold endR
      split
      · rename_i T hT
        by_cases hk : T.kind = 1
        · obtain ⟨c, r, e, hc⟩ := rdT_one hT hk
          exfalso
          apply H
          have : l = l.take (nm.length + 3) ++ l.drop (nm.length + 3) := (List.take_append_drop _ _).symm
          rw [e] at this
          exact ⟨c, r ++ l.drop (nm.length + 3), this, hc⟩
        · simp [hk]
      · rfl
    have e2 : endsD l nm = false := by
      cases he : endsD l nm with
      | false => rfl
      | true =>
        exfalso
        apply H
        unfold endsD at he
        simp only [Bool.and_eq_true, decide_eq_true_eq, beq_iff_eq] at he
        obtain ⟨⟨h1, h2⟩, _⟩ := he
        cases nm with
        | nil => exact absurd rfl h0
        | cons n0 ns =>
          match l, h1, h2 with
          | a :: b :: c :: r, _, h2 =>
            simp [G.lowL] at h2
            have ha := low_id h2.1 (by omega)
            have hb := low_id h2.2.1 (by omega)
            have hc := (low_ltr h2.2.2.1 (hn n0 (by simp))).1
            exact ⟨c, r, by rw [ha, hb], hc⟩
          | [_, _], h1, _ => simp at h1
          | [_], h1, _ => simp at h1
          | [], h1, _ => simp at h1
    rw [e1, e2]
  case pos =>
    obtain ⟨c, r, rfl, hc⟩ := H
    obtain ⟨t, ht⟩ : ∃ t, c :: r = t := ⟨_, rfl⟩
    have e0 : (60 :: 47 :: c :: r).take (nm.length + 3) = 60 :: 47 :: t.take (nm.length + 1) := by rw [ht]; rfl
    have e1 : G.rdT (60 :: 47 :: t.take (nm.length + 1)) = some (G.refGo ((t.take (nm.length + 1)).length + 2) 1 G.rs0 (t.take (nm.length + 1))) := by
      unfold G.rdT
      dsimp only
      rw [if_neg (by omega), if_neg (by decide), if_pos ⟨rfl, by rw [← ht]; simp [hc]⟩]
    have e2 : endR (60 :: 47 :: c :: r) nm = (G.u8s (G.lowL ((t.take (nm.length + 1)).takeWhile (fun c => !dlm c))) == G.u8s nm) := by
      unfold endR
      rw [e0, e1]
      dsimp only
      rw [refGo_kind, name_zero _ _ _ _ rfl]
      simp [G.rs0]
    rw [e2, ht]
    have ht256 : ∀ x ∈ t, x < 256 := fun x hx => hl x (by rw [ht]; simp [hx])
    have hlo : ∀ x : Nat, x < 256 → G.lowN x < 256 := fun x hx => by unfold G.lowN; split <;> omega
    have hnd : ∀ x ∈ t.take nm.length, G.lowL (t.take nm.length) = nm → dlm x = false := fun x hx e => by
      obtain ⟨i, hi, rfl⟩ := List.getElem_of_mem hx
      have h2 : (G.lowL (t.take nm.length))[i]? = nm[i]? := by rw [e]
      unfold G.lowL at h2
      rw [List.getElem?_map, List.getElem?_eq_getElem hi] at h2
      have h3 : nm[i]? = some (G.lowN (t.take nm.length)[i]) := h2.symm
      exact (low_ltr rfl (hn _ (List.mem_of_getElem? h3))).2
    have key : (G.u8s (G.lowL ((t.take (nm.length + 1)).takeWhile (fun c => !dlm c))) = G.u8s nm) ↔ endsD (60 :: 47 :: t) nm = true := by
      unfold endsD
      simp only [Bool.and_eq_true, decide_eq_true_eq, beq_iff_eq, Bool.or_eq_true, List.length_cons]
      have e5 : (60 :: 47 :: t).take (nm.length + 2) = 60 :: 47 :: t.take nm.length := rfl
      have e6 : (60 :: 47 :: t).getD (nm.length + 2) 0 = t.getD nm.length 0 := rfl
      have e7 : G.lowL (60 :: 47 :: t.take nm.length) = 60 :: 47 :: G.lowL (t.take nm.length) := rfl
      rw [e5, e6, e7]
      constructor
      · intro h
        have h1 := u8s_eq (fun x hx => by
          unfold G.lowL at hx
          obtain ⟨y, hy, rfl⟩ := List.mem_map.1 hx
          exact hlo y (ht256 y (List.mem_of_mem_take (List.takeWhile_subset _ hy)))) (fun x hx => by have := hn x hx; omega) h
        have hlen : ((t.take (nm.length + 1)).takeWhile (fun c => !dlm c)).length = nm.length := by
          have := congrArg List.length h1
          unfold G.lowL at this
          rwa [List.length_map] at this
        have hpre : (t.take (nm.length + 1)).takeWhile (fun c => !dlm c) = t.take nm.length := by
          have hp := List.takeWhile_prefix (fun c => !dlm c) (l := t.take (nm.length + 1))
          have := List.prefix_iff_eq_take.1 hp
          rw [hlen, List.take_take, Nat.min_eq_left (by omega)] at this
          exact this
        have hn2 : nm.length ≤ t.length := by
          have := congrArg List.length hpre
          rw [hlen, List.length_take] at this
          omega
        refine ⟨⟨by omega, by rw [← hpre, h1]⟩, ?_⟩
        by_cases hq : t.length = nm.length
        · exact .inl (by omega)
        · refine .inr ?_
          have hlt : nm.length < t.length := by omega
          have e8 : t.take (nm.length + 1) = t.take nm.length ++ [t[nm.length]] := by rw [List.take_add_one, List.getElem?_eq_getElem hlt]; rfl
          rw [List.getD_eq_getElem?_getD, List.getElem?_eq_getElem hlt]
          show dlm t[nm.length] = true
          cases hdl : dlm t[nm.length] with
          | true => rfl
          | false =>
            exfalso
            rw [e8, List.takeWhile_append_of_pos (fun x hx => by
              rw [← hpre] at hx
              exact tw_mem (p := fun c => !dlm c) hx), List.takeWhile_cons_of_pos (by simp [hdl])] at hlen
            simp at hlen
            omega
      · rintro ⟨⟨h1, h2⟩, h3⟩
        have h2 : G.lowL (t.take nm.length) = nm := by simpa using h2
        have hall : ∀ x ∈ t.take nm.length, (fun c => !dlm c) x = true := fun x hx => by simp [hnd x hx h2]
        have e9 : (t.take (nm.length + 1)).takeWhile (fun c => !dlm c) = t.take nm.length := by
          by_cases hq : t.length = nm.length
          · rw [List.take_of_length_le (by omega), List.take_of_length_le (by omega)]
            rw [List.take_of_length_le (by omega)] at hall
            exact tw_all hall
          · have hlt : nm.length < t.length := by omega
            have e8 : t.take (nm.length + 1) = t.take nm.length ++ [t[nm.length]] := by rw [List.take_add_one, List.getElem?_eq_getElem hlt]; rfl
            have hdl : dlm t[nm.length] = true := by
              rcases h3 with h3 | h3
              · omega
              · rwa [List.getD_eq_getElem?_getD, List.getElem?_eq_getElem hlt] at h3
            rw [e8, List.takeWhile_append_of_pos hall, List.takeWhile_cons_of_neg (by simp [hdl])]
            simp
        rw [e9, h2]
    cases hE : endsD (60 :: 47 :: t) nm with
    | true => rw [hE] at key; rw [key.2 rfl]; simp
    | false =>
      rw [hE] at key
      rw [beq_eq_false_iff_ne]
      intro h
      have := key.1 h
      cases this
end Go.Proofs.YtnedjafpjbfncaaGreatDoor

namespace Go.Proofs.YtnedjafpjbfncaaGreatDoor.G
open Go.RowKit Go.Shelf Go.Lib Go.Maps Go.Sort

theorem app_str (a b : List Nat) : (⟨(u8s a).toArray⟩ ++ ⟨(u8s b).toArray⟩ : ByteArray) = ⟨(u8s (a ++ b)).toArray⟩ := by
  apply ByteArray.ext
  simp [u8s]
theorem by_lit1 (w : World) (y : Nat) (hy : y < 256) : BY (w.alloc (.cells #[.int .u8 (y : Int)] 5)) (w.alloc (.cells #[.int .u8 (y : Int)] 5)).heap.size [y] (some ⟨w.heap.size, 0, none⟩) 1 := by
  refine ⟨Nat.le_refl _, by unfold maxLen; omega, (fun e => nomatch e), (fun x hx => by simp at hx; omega), fun _ => ⟨w.heap.size, 0, rfl, by simp, fun i x hx => ?_⟩⟩
  cases i with
  | zero =>
    simp at hx
    subst hx
    exact (World.cell?_alloc_new ..).trans rfl
  | succ i => simp at hx
theorem index_str {l : List Nat} {k x : Nat} (hx : l[k]? = some x) (h256 : x < 256) (w : World) : (Instr.index 9 (.string ⟨(u8s l).toArray⟩) (.int .i64 (k : Int))).run Tryz.prog w = .ok (.int .u8 (x : Int)) w := by
  have hk : k < (u8s l).length := by rw [u8s_len]; exact (List.getElem?_eq_some_iff.1 hx).1
  rw [run_index_string _ _ _ _ _ Tryz.underlying9, dif_pos ⟨by omega, by show (k : Int) < (((u8s l).length : Nat) : Int); omega⟩]
  have hu : (u8s l)[k]? = some (UInt8.ofNat x) := by unfold u8s; rw [List.getElem?_map, hx]; rfl
  obtain ⟨h1, h2⟩ := List.getElem?_eq_some_iff.1 hu
  have : ((u8s l)[k]'hk).toNat = x := by rw [h2]; simp [Nat.mod_eq_of_lt h256]
  have e : (x : Int) = (((u8s l)[k]'hk).toNat : Int) := by rw [this]
  rw [e]
  rfl
theorem size_str (l : List Nat) : (⟨(u8s l).toArray⟩ : ByteArray).size = l.length := by simp [ByteArray.size, u8s_len]
set_option maxHeartbeats 4000000 in
set_option maxRecDepth 100000 in
theorem blank_any (c : Nat) (w : World) : Calls Tryz.prog 26 #[.int .u8 (c : Int)] w fun e w' => e = .returned (.bool (blkB c)) ∧ w' = w := by
  have hb : blkB c = (((c : Int) == 9) || ((c : Int) == 10) || ((c : Int) == 12) || ((c : Int) == 13) || ((c : Int) == 32)) := by
    unfold blkB
    rw [Bool.eq_iff_iff]
    simp only [Bool.or_eq_true, beq_iff_eq]
    omega
  rw [hb]
  generalize (c : Int) = X
  cases e0 : (X == 9) with
  | true =>
    go_enter Tryz.func26, Tryz.ntmps26
    go_wp2_with fail
    go_ret
    exact ⟨rfl, rfl⟩
  | false =>
    cases e1 : (X == 10) with
    | true =>
      go_enter Tryz.func26, Tryz.ntmps26
      go_wp2_with fail
      go_ret
      exact ⟨rfl, rfl⟩
    | false =>
      cases e2 : (X == 12) with
      | true =>
        go_enter Tryz.func26, Tryz.ntmps26
        go_wp2_with fail
        go_ret
        exact ⟨rfl, rfl⟩
      | false =>
        cases e3 : (X == 13) with
        | true =>
          go_enter Tryz.func26, Tryz.ntmps26
          go_wp2_with fail
          go_ret
          exact ⟨rfl, rfl⟩
        | false =>
          cases e4 : (X == 32) with
          | true =>
            go_enter Tryz.func26, Tryz.ntmps26
            go_wp2_with fail
            go_ret
            exact ⟨rfl, rfl⟩
          | false =>
            go_enter Tryz.func26, Tryz.ntmps26
            go_wp2_with fail
            go_ret
            exact ⟨rfl, rfl⟩
set_option maxHeartbeats 4000000 in
set_option maxRecDepth 100000 in
theorem letter_any (c : Nat) (w : World) : Calls Tryz.prog 38 #[.int .u8 (c : Int)] w fun e w' => e = .returned (.bool (ltrB c)) ∧ w' = w := by
  have e0 : ltrB c = ((decide (65 ≤ (c : Int)) && decide ((c : Int) ≤ 90)) || (decide (97 ≤ (c : Int)) && decide ((c : Int) ≤ 122))) := by
    unfold ltrB
    rw [Bool.eq_iff_iff]
    simp
    omega
  rw [e0]
  generalize (c : Int) = X
  by_cases h1 : 65 ≤ X
  · have d1 : decide (65 ≤ X) = true := by simpa using h1
    by_cases h2 : X ≤ 90
    · have d2 : decide (X ≤ 90) = true := by simpa using h2
      go_enter Tryz.func38, Tryz.ntmps38
      go_wp2_with fail
      go_ret
      exact ⟨by simp [d1, d2], rfl⟩
    · have d2 : decide (X ≤ 90) = false := by simpa using h2
      by_cases h3 : 97 ≤ X
      · have d3 : decide (97 ≤ X) = true := by simpa using h3
        go_enter Tryz.func38, Tryz.ntmps38
        go_wp2_with fail
        go_ret
        exact ⟨by simp, rfl⟩
      · have d3 : decide (97 ≤ X) = false := by simpa using h3
        go_enter Tryz.func38, Tryz.ntmps38
        go_wp2_with fail
        go_ret
        exact ⟨by simp, rfl⟩
  · have d1 : decide (65 ≤ X) = false := by simpa using h1
    have d3 : decide (97 ≤ X) = false := by simp; omega
    go_enter Tryz.func38, Tryz.ntmps38
    go_wp2_with fail
    go_ret
    exact ⟨by simp, rfl⟩
theorem lowL_snoc {l : List Nat} {k x : Nat} (hx : l[k]? = some x) : lowL (l.take (k + 1)) = lowL (l.take k) ++ [lowN x] := by
  rw [List.take_add_one, hx]
  simp [lowL]
set_option maxHeartbeats 4000000 in
set_option maxRecDepth 100000 in
/-- The document's Lower. -/
theorem refLower_any (l : List Nat) (h256 : ∀ x ∈ l, x < 256) (hl : l.length ≤ 1000000) (w : World) :
    Calls Tryz.prog 25 #[strV l] w fun e w' => e = .returned (strV (lowL l)) ∧ Below w.heap.size w w' := by
  have hsz := size_str l
  obtain ⟨N, hN⟩ : ∃ N, l.length = N := ⟨_, rfl⟩
  have hix := fun k x (hx : l[k]? = some x) => index_str hx (h256 x (List.mem_of_getElem? hx))
  unfold strV
  rw [hN] at hsz hl
  have HH := Lib.hid (And.intro hN (And.intro h256 hix))
  clear hN h256 hix
  obtain ⟨S, hS⟩ : ∃ S : ByteArray, ⟨(u8s l).toArray⟩ = S := ⟨_, rfl⟩
  rw [hS] at hsz ⊢
  have HS := Lib.hid hS
  clear hS
  go_enter Tryz.func25, Tryz.ntmps25
  go_wp2_with fail
  go_loopw [3, 4, 5] (fun out i _ wr => ∃ k : Nat, i = .int .i64 (k : Int) ∧ k ≤ N ∧ out = strV (lowL (l.take k)) ∧ Below w.heap.size w wr) (fun _ i _ _ => N - (RowKit.intOf i).toNat)
  case atStart => exact ⟨0, by go_num, by omega, rfl, Below.refl _ _⟩
  case round =>
    obtain ⟨k, rfl, hk, rfl, hb⟩ := hrel
    unfold strV
    by_cases hlt : k < N
    case neg =>
      obtain rfl : k = N := by omega
      have HB := Lib.hid hb
      clear hb
      go_wp2_with fail
      go_ret
      refine ⟨?_, HB.out⟩
      have e : l.take k = l := by rw [← HH.out.1]; exact List.take_length
      rw [e]
      rfl
    have i1 : (k : Int) < (N : Int) := by omega
    obtain ⟨x, hx⟩ := at_lt (l := l) (k := k) (by rw [HH.out.1]; exact hlt)
    have hx256 := HH.out.2.1 x (List.mem_of_getElem? hx)
    have hi := HH.out.2.2 k x hx
    rw [HS.out] at hi
    have hsn := lowL_snoc hx
    have hcv : (convert 22 9 (.slice (some ⟨wr.heap.size, 0, none⟩) 1 1)).run Tryz.prog (wr.alloc (.cells #[.int .u8 ((lowN x : Nat) : Int)] 5)) = .ok (.string ⟨(u8s [lowN x]).toArray⟩) (wr.alloc (.cells #[.int .u8 ((lowN x : Nat) : Int)] 5)) := conv_by (by_lit1 wr (lowN x) (lowN_lt hx256))
    have hst := app_str (lowL (l.take k)) [lowN x]
    rw [← hsn] at hst
    have hsa : (⟨(u8s (lowL (l.take k))).toArray⟩ : ByteArray).size = k := by
      rw [size_str]
      have := (List.getElem?_eq_some_iff.1 hx).1
      simp [lowL]
      omega
    have hsb : (⟨(u8s [lowN x]).toArray⟩ : ByteArray).size = 1 := size_str _
    generalize (⟨(u8s (lowL (l.take k))).toArray⟩ : ByteArray) = SA at *
    generalize (⟨(u8s [lowN x]).toArray⟩ : ByteArray) = SB at *
    have hb1 := hb.alloc hb.size (.cells #[.int .u8 ((lowN x : Nat) : Int)] 5)
    by_cases c1 : 65 ≤ x ∧ x ≤ 90
    · have hlow : ((lowN x : Nat) : Int) = (x : Int) + 32 := by unfold lowN; rw [if_pos c1]; rfl
      rw [hlow] at hcv hb1
      have d1 : decide (65 ≤ (x : Int)) = true := by simp; omega
      have d2 : decide ((x : Int) ≤ 90) = true := by simp; omega
      have e1 : IntKind.u8.wrap ((x : Int) + 32) = (x : Int) + 32 := IntWalk.u8_in _ (by omega)
      have HE := Lib.hid (And.intro hst hb1)
      clear hst hb1 hb hsn c1 hx256 hx hlow
      generalize (x : Int) = X at *
      go_wp2_with fail
      go_roundw
      case rel => exact ⟨k + 1, by go_num, by omega, congrArg Value.string HE.out.1, HE.out.2⟩
      case measure => simp [RowKit.intOf]; omega
    · have hlow : lowN x = x := by unfold lowN; rw [if_neg c1]
      rw [hlow] at hcv hb1
      by_cases c2 : 65 ≤ x
      · have d1 : decide (65 ≤ (x : Int)) = true := by simp; omega
        have d2 : decide ((x : Int) ≤ 90) = false := by simp; omega
        have HE := Lib.hid (And.intro hst hb1)
        clear hst hb1 hb hsn c1 hx256 hx hlow
        generalize (x : Int) = X at *
        go_wp2_with fail
        go_roundw
        case rel => exact ⟨k + 1, by go_num, by omega, congrArg Value.string HE.out.1, HE.out.2⟩
        case measure => simp [RowKit.intOf]; omega
      · have d1 : decide (65 ≤ (x : Int)) = false := by simp; omega
        have HE := Lib.hid (And.intro hst hb1)
        clear hst hb1 hb hsn c1 hx256 hx hlow
        generalize (x : Int) = X at *
        go_wp2_with fail
        go_roundw
        case rel => exact ⟨k + 1, by go_num, by omega, congrArg Value.string HE.out.1, HE.out.2⟩
        case measure => simp [RowKit.intOf]; omega
end Go.Proofs.YtnedjafpjbfncaaGreatDoor.G

namespace Go.Proofs.YtnedjafpjbfncaaGreatDoor
open Go.RowKit Go.Shelf Go.Lib Go.Maps Go.Great

set_option maxHeartbeats 8000000 in
set_option maxRecDepth 100000 in
theorem ends_any (xs : List Nat) (b o cap k : Nat) (nm : List Nat) (w : World) (hx : BY w w.heap.size xs (some ⟨b, o, none⟩) cap) (hl : xs.length ≤ 1000) (hk : k < xs.length) (hnm : nm.length ≤ 100) (hn : ∀ c ∈ nm, c < 256) :
    Calls Tryz.prog 18 #[.slice (some ⟨b, o, none⟩) xs.length cap, .int .i64 (k : Int), .string ⟨(G.u8s nm).toArray⟩] w fun e w' => e = .returned (.bool (endsD (xs.drop k) nm)) ∧ Below w.heap.size w w' := by
  obtain ⟨R, hR⟩ : ∃ r, endsD (xs.drop k) nm = r := ⟨_, rfl⟩
  rw [hR]
  unfold endsD at hR
  rw [List.length_drop] at hR
  have hcap := hx.l
  obtain ⟨K, hK⟩ : ∃ K, nm.length = K := ⟨_, rfl⟩
  obtain ⟨N, hN⟩ : ∃ N, xs.length = N := ⟨_, rfl⟩
  obtain ⟨SN, hSN⟩ : ∃ Sx : ByteArray, ⟨(G.u8s nm).toArray⟩ = Sx := ⟨_, rfl⟩
  obtain ⟨WS, hWS⟩ : ∃ Sx : ByteArray, (⟨#[60, 47]⟩ : ByteArray) ++ SN = Sx := ⟨_, rfl⟩
  have hWe : WS = ⟨(G.u8s (60 :: 47 :: nm)).toArray⟩ := by
    rw [← hWS, ← hSN]
    simp [ByteArray.ext_iff, G.u8s]
  have hWl : WS.toList = G.u8s (60 :: 47 :: nm) := by rw [hWe]; simp
  have hsz : WS.size = K + 2 := by
    rw [hWe]
    show (G.u8s (60 :: 47 :: nm)).toArray.size = K + 2
    simp [G.u8s]
    exact hK
  have hsn : SN.size ≤ 100 := by
    rw [← hSN]
    show (G.u8s nm).toArray.size ≤ 100
    simp [G.u8s]
    exact hnm
  clear hWe
  rw [hN, hK] at hR
  rw [hN] at hcap hk hl
  rw [hN, hSN]
  by_cases c : N < k + (K + 2)
  · have c1 : (N : Int) < (k : Int) + ((K : Int) + 2) := by omega
    have hf : R = false := by rw [← hR, decide_eq_false (by omega)]; rfl
    subst hf
    clear hx hR hWl hSN
    go_enter Tryz.func18, Tryz.ntmps18
    go_wp2_with fail
    go_ret
    exact ⟨rfl, Below.refl _ _⟩
  · have c1 : decide ((N : Int) < (k : Int) + ((K : Int) + 2)) = false := by rw [decide_eq_false_iff_not]; omega
    have hB := hx.win k (k + (K + 2)) (by omega) (by omega)
    obtain ⟨l', hl'⟩ : ∃ l', (xs.take (k + (K + 2))).drop k = l' := ⟨_, rfl⟩
    rw [hl'] at hB
    have hll : l'.length = K + 2 := by rw [← hl', List.length_drop, List.length_take]; omega
    have hlt : (xs.drop k).take (K + 2) = l' := by rw [← hl', List.drop_take]; congr 1; omega
    have h256 := hB.i
    rw [hlt] at hR
    have hcv := conv_by hB
    rw [hll] at hcv
    have hsl := slice_win b o N cap k (k + (K + 2)) (by omega) (by omega) (by omega)
    rw [show k + (K + 2) - k = K + 2 by omega, show ((k + (K + 2) : Nat) : Int) = (k : Int) + ((K : Int) + 2) by omega] at hsl
    have CL := G.refLower_any l' h256 (by omega) w
    unfold G.strV at CL
    obtain ⟨LS, hLS⟩ : ∃ Sx : ByteArray, ⟨(G.u8s l').toArray⟩ = Sx := ⟨_, rfl⟩
    obtain ⟨LW, hLW⟩ : ∃ Sx : ByteArray, ⟨(G.u8s (G.lowL l')).toArray⟩ = Sx := ⟨_, rfl⟩
    rw [hLS, hLW] at CL
    replace hcv : (convert 22 9 (.slice (some ⟨b, o + k, none⟩) (K + 2) (cap - k))).run Tryz.prog w = .ok (.string LS) w := by rw [← hLS]; exact hcv
    have hll2 : ∀ x ∈ G.lowL l', x < 256 := fun x hx => by
      unfold G.lowL at hx
      obtain ⟨y, hy, rfl⟩ := List.mem_map.1 hx
      have := h256 y hy
      unfold G.lowN
      split <;> omega
    obtain ⟨BQ, hBQ⟩ : ∃ q, (G.lowL l' == 60 :: 47 :: nm) = q := ⟨_, rfl⟩
    have hq : (LW.toList == WS.toList) = BQ := by
      rw [hWl, ← hLW, ← hBQ]
      have e1 : (⟨(G.u8s (G.lowL l')).toArray⟩ : ByteArray).toList = G.u8s (G.lowL l') := by simp
      rw [e1]
      cases hb : (G.lowL l' == 60 :: 47 :: nm) with
      | true => rw [eq_of_beq hb]; simp
      | false =>
        rw [beq_eq_false_iff_ne] at hb ⊢
        intro e
        exact hb (u8s_eq hll2 (fun x hx => by
          rcases List.mem_cons.1 hx with rfl | hx
          · omega
          · rcases List.mem_cons.1 hx with rfl | hx
            · omega
            · exact hn x hx) e)
    rw [hBQ] at hR
    have HX := Lib.hid (And.intro CL (And.intro hx (And.intro hR hN)))
    clear CL hx hR hBQ hLW hLS hWl hSN hlt hl' hB h256 hll2
    cases BQ with
    | false =>
      have hf : R = false := by rw [← HX.out.2.2.1]; simp
      subst hf
      go_enter Tryz.func18, Tryz.ntmps18
      go_wp2_with fail
      refine HX.out.1.mono ?_
      rintro e w1 ⟨rfl, hb⟩
      go_wp2_with fail
      go_ret
      exact ⟨rfl, hb⟩
    | true =>
      by_cases hq2 : k + (K + 2) = N
      · have d : ((k : Int) + ((K : Int) + 2) == (N : Int)) = true := by simp; omega
        have hf : R = true := by
          rw [← HX.out.2.2.1, show N - k = K + 2 by omega]
          simp
        subst hf
        go_enter Tryz.func18, Tryz.ntmps18
        go_wp2_with fail
        refine HX.out.1.mono ?_
        rintro e w1 ⟨rfl, hb⟩
        go_wp2_with fail
        go_ret
        exact ⟨rfl, hb⟩
      · have d : ((k : Int) + ((K : Int) + 2) == (N : Int)) = false := by simp; omega
        have i1 : (k : Int) + ((K : Int) + 2) < (N : Int) := by omega
        have i2 : ((k : Int) + ((K : Int) + 2)).toNat = k + (K + 2) := by omega
        obtain ⟨x, hxx⟩ : ∃ x, xs[k + (K + 2)]? = some x := ⟨_, List.getElem?_eq_getElem (by rw [HX.out.2.2.2]; omega)⟩
        have hf : R = dlm x := by
          rw [← HX.out.2.2.1, List.getD_eq_getElem?_getD, List.getElem?_drop, hxx, decide_eq_true (show K + 2 ≤ N - k by omega), decide_eq_false (show ¬ N - k = K + 2 by omega)]
          rfl
        subst hf
        clear hq2
        go_enter Tryz.func18, Tryz.ntmps18
        go_wp2_with fail
        refine HX.out.1.mono ?_
        rintro e w1 ⟨rfl, hb⟩
        have h1 := HX.out.2.1.on hb
        obtain ⟨b2, o2, e2, _, hcell⟩ := h1.at hxx
        obtain ⟨rfl, rfl⟩ : b2 = b ∧ o2 = o := by simpa [eq_comm] using e2
        have hx256 := h1.lt hxx
        have CB := fun W => G.blank_any x W
        have HB := Lib.hid hb
        clear hb h1 e2 hxx
        go_wp2_with fail
        refine (CB w1).mono ?_
        rintro e w2 ⟨rfl, hw⟩
        rw [hw]
        clear hw CB
        have hd : dlm x = (G.blkB x || x == 47 || x == 62) := rfl
        cases hbk : G.blkB x with
        | true =>
          have e : dlm x = true := by rw [hd, hbk]; rfl
          have HE := Lib.hid e
          clear hd e hbk
          go_wp2_with fail
          go_ret
          exact ⟨by rw [HE.out]; rfl, HB.out⟩
        | false =>
          by_cases h47 : x = 47
          · have e : dlm x = true := by rw [hd, hbk, h47]; rfl
            have d1 : ((x : Int) == 47) = true := by simp; omega
            have HE := Lib.hid e
            clear hd e hbk h47
            go_wp2_with fail
            go_ret
            exact ⟨by rw [HE.out]; rfl, HB.out⟩
          · have d1 : ((x : Int) == 47) = false := by simp; omega
            by_cases h62 : x = 62
            · have e : dlm x = true := by rw [hd, hbk, h62]; rfl
              have d2 : ((x : Int) == 62) = true := by simp; omega
              have HE := Lib.hid e
              clear hd e hbk h47 h62
              go_wp2_with fail
              go_ret
              exact ⟨by rw [HE.out]; rfl, HB.out⟩
            · have d2 : ((x : Int) == 62) = false := by simp; omega
              have e : dlm x = false := by rw [hd, hbk]; simp [h47, h62]
              have HE := Lib.hid e
              clear hd e hbk h47 h62
              go_wp2_with fail
              go_ret
              exact ⟨by rw [HE.out]; rfl, HB.out⟩
end Go.Proofs.YtnedjafpjbfncaaGreatDoor

namespace Go.Proofs.YtnedjafpjbfncaaGreatDoor
open Go.RowKit Go.Shelf Go.Lib Go.Maps Go.Great

def hxL : List UInt8 := [48, 49, 50, 51, 52, 53, 54, 55, 56, 57, 97, 98, 99, 100, 101, 102, 65, 66, 67, 68, 69, 70]
def dgZ (c : Nat) : Int := if dgB 16 c then (dv c : Int) else -1
theorem dgZ_at : ∀ k, k < 22 → dgZ ((nats hxL).getD k 0) = if 15 < k then (k : Int) - 6 else (k : Int) := by decide +kernel
theorem dgZ_out : ∀ c, c < 256 → (∀ k, k < 22 → (nats hxL).getD k 0 ≠ c) → dgZ c = -1 := by decide +kernel
theorem dgZ_base : ∀ c, c < 256 → (dgB 10 c = (decide (0 ≤ dgZ c) && decide (dgZ c < 10))) ∧ (dgB 16 c = (decide (0 ≤ dgZ c) && decide (dgZ c < 16))) ∧ (0 ≤ dgZ c → dgZ c = (dv c : Int)) ∧ dgZ c ≤ 15 ∧ -1 ≤ dgZ c := by decide +kernel
set_option maxHeartbeats 4000000 in
set_option maxRecDepth 100000 in
theorem refDigit_any (c : Nat) (hc : c < 256) (w : World) : Calls Tryz.prog 81 #[.int .u8 (c : Int)] w fun e w' => e = .returned (.int .i64 (dgZ c)) ∧ w' = w := by
  obtain ⟨DZ, hDZ⟩ : ∃ v, dgZ c = v := ⟨_, rfl⟩
  rw [hDZ]
  have HD := Lib.hid (And.intro hDZ hc)
  clear hDZ hc
  go_enter Tryz.func81, Tryz.ntmps81
  go_wp2_with fail
  go_loopw [3] (fun i wr => ∃ k : Nat, i = .int .i64 (k : Int) ∧ k ≤ 22 ∧ (∀ j, j < k → (nats hxL).getD j 0 ≠ c) ∧ wr = w) (fun i _ => 22 - (RowKit.intOf i).toNat)
  case atStart => exact ⟨0, rfl, by decide, fun j hj => absurd hj (by omega), rfl⟩
  case round =>
    obtain ⟨k, rfl, hk, hj, rfl⟩ := hrel
    by_cases hlt : k < 22
    case neg =>
      obtain rfl : k = 22 := by omega
      have he : DZ = -1 := by rw [← HD.out.1]; exact dgZ_out c HD.out.2 hj
      have HE := Lib.hid he
      clear hj he
      go_wp2_with fail
      go_ret
      exact ⟨by rw [HE.out]; rfl, rfl⟩
    case pos =>
      have i1 : (k : Int) < 22 := by omega
      have hix := index_at hxL k hlt
      dsimp only [hxL] at hix
      obtain ⟨d, hd⟩ : ∃ d, (nats hxL).getD k 0 = d := ⟨_, rfl⟩
      have hd' := hd
      dsimp only [hxL] at hd'
      rw [hd'] at hix
      by_cases hcd : d = c
      case pos =>
        subst hcd
        have hz := dgZ_at k hlt
        rw [hd, HD.out.1] at hz
        by_cases h15 : 15 < k
        · rw [if_pos h15] at hz
          have h15' : (15 : Int) < (k : Int) := by omega
          have w1 : wrap64 ((k : Int) - 6) = (k : Int) - 6 := by unfold wrap64; omega
          have HZ := Lib.hid hz
          clear hz hj hd hd'
          go_wp2_with fail
          go_ret
          exact ⟨by rw [HZ.out]; first | rfl | (simp [w1]), rfl⟩
        · rw [if_neg h15] at hz
          have h15' : ¬ (15 : Int) < (k : Int) := by omega
          have HZ := Lib.hid hz
          clear hz hj hd hd'
          go_wp2_with fail
          go_ret
          exact ⟨by rw [HZ.out]; rfl, rfl⟩
      case neg =>
        have hc1 : ¬ (d : Int) = (c : Int) := by omega
        have hc2 : ((d : Int) == (c : Int)) = false := by simp; omega
        have hend : ∀ j, j < k + 1 → (nats hxL).getD j 0 ≠ c := fun j h => by
          by_cases e : j = k
          · subst e; rw [hd]; exact hcd
          · exact hj j (by omega)
        have HE := Lib.hid hend
        clear hend hj hd hd'
        go_wp2_with fail
        go_roundw
        case rel => exact ⟨k + 1, by go_num, by omega, HE.out, trivial⟩
        case measure => simp [RowKit.intOf]; omega
theorem wrap_id2 (x : Nat) (h : x ≤ 16 * 16777216) : wrap64 ((x : Nat) : Int) = ((x : Nat) : Int) := by unfold wrap64; omega
theorem wrap_add2 (x v : Nat) (d : Int) (hd : d = (v : Int)) (h : x + v ≤ 16 * 16777216 + 15) : wrap64 (((x : Nat) : Int) + d) = ((x + v : Nat) : Int) := by subst hd; unfold wrap64; omega
theorem mnR_num' {b : Nat} (hb : b = 10 ∨ b = 16) (l : List Nat) (h : ∀ x ∈ l, x < 256 ∧ dgB b x = true) (hm : l.length ≤ if b = 10 then 7 else 6) : nbV b l 0 < 16777216 := by
  have h1 := nbV_lt hb l 0 0 h (by rcases hb with rfl | rfl <;> decide)
  rcases hb with rfl | rfl
  · have h3 : 10 ^ (0 + l.length) ≤ 10 ^ 7 := Nat.pow_le_pow_right (by decide) (by simp at hm; omega)
    have h4 : (10 : Nat) ^ 7 = 10000000 := by decide
    omega
  · have h3 : 16 ^ (0 + l.length) ≤ 16 ^ 6 := Nat.pow_le_pow_right (by decide) (by simp at hm; omega)
    have h4 : (16 : Nat) ^ 6 = 16777216 := by decide
    omega
/-- What the document's side says of digits: their scalar, or -1. -/
def numZ (b most : Nat) (u : List Nat) : Int := if u = [] ∨ most < u.length then -1 else if u.all (dgB b) then mnR (nbV b u 0) else -1
theorem dgB_iff {b c : Nat} (hb : b = 10 ∨ b = 16) (hc : c < 256) : dgB b c = (decide (0 ≤ dgZ c) && decide (dgZ c < (b : Int))) := by
  rcases hb with rfl | rfl
  · exact (dgZ_base c hc).1
  · exact (dgZ_base c hc).2.1
theorem nbV_snoc (b : Nat) : ∀ (l : List Nat) (c n : Nat), nbV b (l ++ [c]) n = b * nbV b l n + dv c
  | [], _c, _n => rfl
  | a :: l, c, n => nbV_snoc b l c (b * n + dv a)
theorem numZ_bad {b most : Nat} {u : List Nat} {c : Nat} (hm : c ∈ u) (hc : dgB b c = false) : numZ b most u = -1 := by
  unfold numZ
  split
  · rfl
  · rw [if_neg]
    intro h
    rw [List.all_eq_true.1 h c hm] at hc
    cases hc
set_option maxHeartbeats 4000000 in
set_option maxRecDepth 100000 in
theorem refNumber_any {b most : Nat} (hb : b = 10 ∨ b = 16) (hmo : most ≤ if b = 10 then 7 else 6) (l : List UInt8) (hl : l.length ≤ 1000000) (w : World) : Calls Tryz.prog 57 #[.string ⟨l.toArray⟩, .int .i64 (b : Int), .int .i64 (most : Int)] w fun e w' => e = .returned (.int .i32 (numZ b most (nats l))) ∧ w' = w := by
  obtain ⟨NZ, hNZ⟩ : ∃ v, numZ b most (nats l) = v := ⟨_, rfl⟩
  rw [hNZ]
  obtain ⟨N, hN⟩ : ∃ n, l.length = n := ⟨_, rfl⟩
  have hnl : (nats l).length = N := by rw [nats, List.length_map, hN]
  have h256 : ∀ x ∈ nats l, x < 256 := fun x hx => by
    obtain ⟨y, _, rfl⟩ := List.mem_map.1 hx
    exact UInt8.toNat_lt y
  have HD := Lib.hid (And.intro hNZ (And.intro hnl (And.intro h256 (And.intro hb hmo))))
  clear hNZ hnl h256 hb hmo
  by_cases h0 : N = 0
  case pos =>
    have he : NZ = -1 := by
      rw [← HD.out.1, numZ, if_pos (Or.inl (List.eq_nil_of_length_eq_zero (by rw [HD.out.2.1]; exact h0)))]
    have HE := Lib.hid he
    subst h0
    clear he
    go_enter Tryz.func57, Tryz.ntmps57
    go_wp2_with fail
    go_ret
    exact ⟨by rw [HE.out]; rfl, rfl⟩
  case neg =>
  have h0z : ¬ (N : Int) = 0 := by omega
  have h0b : ((N : Int) == 0) = false := by simp; omega
  by_cases hbig : most < N
  case pos =>
    have he : NZ = -1 := by rw [← HD.out.1, numZ, if_pos (Or.inr (by rw [HD.out.2.1]; exact hbig))]
    have HE := Lib.hid he
    have hb2 : (most : Int) < (N : Int) := by omega
    clear he
    go_enter Tryz.func57, Tryz.ntmps57
    go_wp2_with fail
    go_ret
    exact ⟨by rw [HE.out]; rfl, rfl⟩
  case neg =>
  have hb2 : ¬ (most : Int) < (N : Int) := by omega
  go_enter Tryz.func57, Tryz.ntmps57
  go_wp2_with fail
  go_loopw [7, 8] (fun n i wr => ∃ k : Nat, i = .int .i64 (k : Int) ∧ k ≤ N ∧ n = .int .i64 (nbV b ((nats l).take k) 0 : Nat) ∧ (∀ x ∈ (nats l).take k, dgB b x = true) ∧ wr = w) (fun _ i _ => N - (RowKit.intOf i).toNat)
  case atStart => exact ⟨0, rfl, by omega, rfl, fun x hx => by simp at hx, rfl⟩
  case round =>
    obtain ⟨k, rfl, hk, rfl, hd, rfl⟩ := hrel
    have hbd : nbV b ((nats l).take k) 0 < 16777216 := mnR_num' HD.out.2.2.2.1 _ (fun x hx => ⟨HD.out.2.2.1 x (List.mem_of_mem_take hx), hd x hx⟩) (by
      have h1 := HD.out.2.1
      have h2 := HD.out.2.2.2.2
      have h3 : ((nats l).take k).length ≤ N := by rw [List.length_take]; omega
      omega)
    by_cases hlt : k < N
    case neg =>
      obtain rfl : k = N := by omega
      have htk : (nats l).take k = nats l := List.take_of_length_le (by rw [HD.out.2.1]; exact Nat.le_refl _)
      rw [htk] at hd hbd ⊢
      have hz : NZ = mnR (nbV b (nats l) 0) := by
        rw [← HD.out.1, numZ, if_neg, if_pos (List.all_eq_true.2 hd)]
        rw [HD.out.2.1]
        rintro (e | e)
        · have := HD.out.2.1
          rw [e] at this
          exact h0 this.symm
        · exact hbig e
      generalize nbV b (nats l) 0 = n at *
      by_cases hn : n = 0
      case pos =>
        subst hn
        have HZ := Lib.hid hz
        clear hz hd hbd
        go_wp2_with fail
        go_ret
        exact ⟨by rw [HZ.out]; rfl, rfl⟩
      case neg =>
        have hn1 : ¬ (n : Int) = 0 := by omega
        have hn2 : ((n : Int) == 0) = false := by simp; omega
        have hw : IntKind.i32.wrap (n : Int) = (n : Int) := IntWalk.i32_in _ ⟨by omega, by omega⟩
        have R := rr_any (n : Int) wr
        cases hv : Lib.validRune (n : Int) with
        | true =>
          rw [hv] at R
          have HZ := Lib.hid (show NZ = (n : Int) by rw [hz, mnR, if_neg hn, scR, if_pos hv])
          have HR := Lib.hid R
          clear hz hd hbd R hv
          go_wp2_with fail
          refine HR.out.mono ?_
          rintro e w1 ⟨rfl, rfl⟩
          go_wp2_with fail
          go_ret
          exact ⟨by rw [HZ.out]; rfl, rfl⟩
        | false =>
          rw [hv] at R
          have HZ := Lib.hid (show NZ = 65533 by rw [hz, mnR, if_neg hn, scR, if_neg (by rw [hv]; decide)])
          have HR := Lib.hid R
          clear hz hd hbd R hv
          go_wp2_with fail
          refine HR.out.mono ?_
          rintro e w1 ⟨rfl, rfl⟩
          go_wp2_with fail
          go_ret
          exact ⟨by rw [HZ.out]; rfl, rfl⟩
    case pos =>
      have i1 : (k : Int) < (N : Int) := by omega
      obtain ⟨c, hc⟩ := at_lt (l := nats l) (k := k) (by rw [HD.out.2.1]; exact hlt)
      have hix := index_at l k (by rw [hN]; exact hlt)
      rw [show (nats l).getD k 0 = c by simp [List.getD_eq_getElem?_getD, hc]] at hix
      have hc256 := HD.out.2.2.1 c (List.mem_of_getElem? hc)
      have C := refDigit_any c hc256 wr
      have hz5 := dgZ_base c hc256
      have hdb := dgB_iff HD.out.2.2.2.1 hc256
      obtain ⟨D, hD⟩ : ∃ d, dgZ c = d := ⟨_, rfl⟩
      rw [hD] at C hz5 hdb
      generalize hn : nbV b ((nats l).take k) 0 = n at *
      cases hq : dgB b c with
      | false =>
        have hbad := numZ_bad (most := most) (List.mem_of_getElem? hc) hq
        have HE := Lib.hid (show NZ = -1 by rw [← HD.out.1]; exact hbad)
        have HC := Lib.hid C
        rw [hq] at hdb
        by_cases hneg : D < 0
        · clear hd hbd hz5 hdb C hn hbad
          go_wp2_with fail
          refine HC.out.mono ?_
          rintro e w1 ⟨rfl, rfl⟩
          go_wp2_with fail
          go_ret
          exact ⟨by rw [HE.out]; rfl, rfl⟩
        · have hge : (b : Int) ≤ D := by
            have h1 : (decide (D < (b : Int))) = false := by
              have h2 : decide (0 ≤ D) = true := by simp; omega
              rw [h2, Bool.true_and] at hdb
              exact hdb.symm
            simp at h1
            omega
          clear hd hbd hz5 hdb C hn hbad
          go_wp2_with fail
          refine HC.out.mono ?_
          rintro e w1 ⟨rfl, rfl⟩
          go_wp2_with fail
          go_ret
          exact ⟨by rw [HE.out]; rfl, rfl⟩
      | true =>
        rw [hq] at hdb
        have hdd := hdb.symm
        simp only [Bool.and_eq_true, decide_eq_true_eq] at hdd
        have hDv := hz5.2.2.1 hdd.1
        have hdvl : dv c ≤ 15 := by omega
        have hb16 : b ≤ 16 := by rcases HD.out.2.2.2.1 with e | e <;> omega
        have hbn : b * n ≤ 16 * n := Nat.mul_le_mul_right _ hb16
        have hneg : ¬ D < 0 := by omega
        have hge : ¬ (b : Int) ≤ D := by omega
        have w1 : wrap64 ((b : Int) * (n : Int)) = ((b * n : Nat) : Int) := by
          rw [← Int.natCast_mul]
          exact wrap_id2 _ (Nat.le_trans hbn (Nat.mul_le_mul_left 16 (Nat.le_of_lt hbd)))
        have w2 : wrap64 (((b * n : Nat) : Int) + D) = ((b * n + dv c : Nat) : Int) := wrap_add2 _ _ _ hDv (Nat.add_le_add (Nat.le_trans hbn (Nat.mul_le_mul_left 16 (Nat.le_of_lt hbd))) hdvl)
        have hnx : nbV b ((nats l).take (k + 1)) 0 = b * n + dv c := by
          rw [List.take_add_one, hc, Option.toList_some, nbV_snoc, hn]
        have hdx : ∀ x ∈ (nats l).take (k + 1), dgB b x = true := fun x hx => by
          rw [List.take_add_one, hc, Option.toList_some] at hx
          rcases List.mem_append.1 hx with h | h
          · exact hd x h
          · rw [List.mem_singleton.1 h]; exact hq
        have HE := Lib.hid (And.intro hnx (And.intro hdx (And.intro w1 w2)))
        have HC := Lib.hid C
        generalize b * n = bn at *
        clear hd hbd hz5 hdb C hn hdd hDv hdvl hbn hnx hdx
        go_wp2_with fail
        refine HC.out.mono ?_
        rintro e w1 ⟨rfl, rfl⟩
        go_wp2_with fail
        go_roundw
        case rel => exact ⟨k + 1, by go_num, by omega, by rw [HE.out.1]; first | rfl | rw [HE.out.2.2.2], HE.out.2.1, trivial⟩
        case measure => simp [RowKit.intOf]; omega
end Go.Proofs.YtnedjafpjbfncaaGreatDoor

namespace Go.Proofs.YtnedjafpjbfncaaGreatDoor
open Go.RowKit Go.Shelf Go.Lib Go.Maps Go.Great

set_option maxRecDepth 100000 in
theorem index_rows (W : World) : ∀ (k : Nat) (x : NmE), nmE[k]? = some x → (Instr.index 185 (.agg NR) (.int .i64 (k : Int))).run Tryz.prog W = .ok (.agg #[.string ⟨x.1.toArray⟩, .int .i32 x.2]) W
  | 0, _, h => by cases h; kernel_rfl
  | 1, _, h => by cases h; kernel_rfl
  | 2, _, h => by cases h; kernel_rfl
  | 3, _, h => by cases h; kernel_rfl
  | 4, _, h => by cases h; kernel_rfl
  | 5, _, h => by cases h; kernel_rfl
  | 6, _, h => by cases h; kernel_rfl
  | 7, _, h => by cases h; kernel_rfl
  | 8, _, h => by cases h; kernel_rfl
  | 9, _, h => by cases h; kernel_rfl
  | 10, _, h => by cases h; kernel_rfl
  | 11, _, h => by cases h; kernel_rfl
  | 12, _, h => by cases h; kernel_rfl
  | 13, _, h => by cases h; kernel_rfl
  | 14, _, h => by cases h; kernel_rfl
  | 15, _, h => by cases h; kernel_rfl
  | 16, _, h => by cases h; kernel_rfl
  | 17, _, h => by cases h; kernel_rfl
  | 18, _, h => by cases h; kernel_rfl
  | 19, _, h => by cases h; kernel_rfl
  | 20, _, h => by cases h; kernel_rfl
  | 21, _, h => by cases h; kernel_rfl
  | 22, _, h => by cases h; kernel_rfl
  | 23, _, h => by cases h; kernel_rfl
  | 24, _, h => by cases h; kernel_rfl
  | 25, _, h => by cases h; kernel_rfl
  | k + 26, x, h => by
    have := (List.getElem?_eq_some_iff.1 h).1
    rw [nmE_len] at this
    omega
def nmStr (x : NmE) : ByteArray := ⟨x.1.toArray⟩
def NL : List ByteArray := nmE.map nmStr
theorem NL_len : NL.length = 26 := by rw [NL, List.length_map, nmE_len]
theorem NL_at {k : Nat} {x : NmE} (h : nmE[k]? = some x) : NL[k]? = some (nmStr x) := by rw [NL, List.getElem?_map, h]; rfl
attribute [local irreducible] wpList Code.wp NR ZNR FR nmE NL
theorem wpList_assignC {P : Program} {ops : Array Oper} {Q : Exit → Act → World → Prop} {rest : List Oper} {o : Oper} {a : Act} {w : World} (hg : o.guard = none) (x : Operand) (ho : o.op = .assign x) (h : wpList P ops Q rest (a.put o.dst (a.eval x)) w) : wpList P ops Q (o :: rest) a w :=
  wpList_plain hg fun _ hK => by
    unfold Oper.wp execOp
    simp only [ho]
    exact hK _ _ h
theorem nm_take {k : Nat} {x : NmE} (hx : nmE[k]? = some x) : NL.take (k + 1) = NL.take k ++ [nmStr x] := by
  rw [List.take_add_one, NL_at hx, Option.toList_some]
def FS (v : Value) : Array Value := (#[v] ++ (nmE.map fun x => Value.agg (ncell x).toArray).toArray) ++ #[undef]
theorem info39 : (Tryz.prog.info? 100).map (fun i => (i.zero, i.size)) = some (some (.agg #[.string ⟨#[]⟩, .int .i32 0]), 2) := by kernel_rfl
set_option maxHeartbeats 4000000 in
set_option maxRecDepth 100000 in
theorem refNames_any (w : World) : Calls Tryz.prog 56 #[] w fun e w' => e = .returned (.slice (some ⟨w.heap.size, 0, none⟩) 26 26) ∧ w' = w.alloc (.cells NR 100) := by
  refine calls_of_wp Tryz.func56 rfl ?_
  apply wp_seq_k; intro K hK
  apply wp_region_lit
  refine wpList_assignC rfl _ rfl ?_
  apply wpList_nil
  refine hK _ _ ?_
  clear hK K
  apply wp_seq_k; intro K hK
  apply wp_region_lit
  refine wpList_splitAt 26 _ (List.take_append_drop 26 _).symm ?_
  refine wpList_builds _ _ (FS (.slice none 0 0)) (by as_aux_lemma => kernel_rfl) ?_
  cases hie : Tryz.prog.info? 100 with
  | none => have := info39; rw [hie] at this; cases this
  | some ie =>
    have h39 := info39
    rw [hie] at h39
    simp only [Option.map_some, Option.some.injEq, Prod.mk.injEq] at h39
    refine wpList_buildSlice rfl 97 100 26 _ rfl NR ie _ (by as_aux_lemma => kernel_rfl) hie h39.1 (by rw [h39.2]; decide) (by rw [h39.2]; decide) (by rw [h39.2]; as_aux_lemma => kernel_rfl) ?_
    refine wpList_assignC rfl _ rfl ?_
    apply wpList_nil
    refine hK _ _ ?_
    refine wp_ret ?_
    refine bodyPost_ret (v := .slice (some ⟨w.heap.size, 0, none⟩) 26 26) ?_ rfl ⟨rfl, rfl⟩
    kernel_rfl
end Go.Proofs.YtnedjafpjbfncaaGreatDoor

namespace Go.Proofs.YtnedjafpjbfncaaGreatDoor
open Go.RowKit Go.Shelf Go.Lib Go.Maps Go.Great
attribute [local irreducible] NR ZNR FR nmE NL

/-- The scalar of a reference that is all of a text; -1: it is none. -/
def innZ (i : List UInt8) : Int := match nmE.find? (isNm i) with
  | some x => x.2
  | none => if (nats i).getD 0 0 ≠ 35 then -1 else if 1 < i.length ∧ ((nats i).getD 1 0 = 120 ∨ (nats i).getD 1 0 = 88) then numZ 16 6 (nats (i.drop 2)) else numZ 10 7 (nats (i.drop 1))
def wholeZ (l : List UInt8) : Int := if l.length < 3 ∨ (nats l).getD 0 0 ≠ 38 ∨ (nats l).getD (l.length - 1) 0 ≠ 59 then -1 else innZ ((l.take (l.length - 1)).drop 1)
theorem slice_str (s : List UInt8) (lo hi : Nat) (h1 : lo ≤ hi) (h2 : hi ≤ s.length) (w : World) : (Instr.slice 9 (.string ⟨s.toArray⟩) (some (.int .i64 (lo : Int))) (some (.int .i64 (hi : Int))) none).run Tryz.prog w = .ok (.string ⟨((s.take hi).drop lo).toArray⟩) w := by
  have := run_slice_string (P := Tryz.prog) w 9 ⟨s.toArray⟩ .i64 .i64 (lo : Int) (hi : Int) Tryz.underlying9 (by omega) (by omega) (by show (hi : Int) ≤ ((s.length : Nat) : Int); omega)
  rw [this]
  have e : (ByteArray.extract ⟨s.toArray⟩ (lo : Int).toNat (hi : Int).toNat) = ⟨((s.take hi).drop lo).toArray⟩ := by
    apply ByteArray.ext
    simp [List.drop_take]
  rw [e]
theorem slice_str_l (s : List UInt8) (lo : Nat) (h2 : lo ≤ s.length) (w : World) : (Instr.slice 9 (.string ⟨s.toArray⟩) (some (.int .i64 (lo : Int))) none none).run Tryz.prog w = .ok (.string ⟨(s.drop lo).toArray⟩) w := by
  have := run_slice_string_l (P := Tryz.prog) w 9 ⟨s.toArray⟩ Tryz.underlying9 .i64 (lo : Int) (by omega) (by show (lo : Int) ≤ ((s.length : Nat) : Int); omega)
  rw [this]
  have e : (ByteArray.extract ⟨s.toArray⟩ (lo : Int).toNat (ByteArray.size ⟨s.toArray⟩)) = ⟨(s.drop lo).toArray⟩ := by
    apply ByteArray.ext
    simp [ByteArray.size]
    exact List.take_of_length_le (by rw [List.length_drop]; exact Nat.le_refl _)
  rw [e]
set_option maxHeartbeats 4000000 in
set_option maxRecDepth 100000 in
theorem refWhole_any (l : List UInt8) (hl : l.length ≤ 1000000) (w : World) : Calls Tryz.prog 40 #[.string ⟨l.toArray⟩] w fun e w' => e = .returned (.int .i32 (wholeZ l)) ∧ Below w.heap.size w w' := by
  obtain ⟨WZ, hWZ⟩ : ∃ v, wholeZ l = v := ⟨_, rfl⟩
  rw [hWZ]
  obtain ⟨N, hN⟩ : ∃ n, l.length = n := ⟨_, rfl⟩
  have HD := Lib.hid (And.intro hWZ hl)
  clear hWZ hl
  by_cases h3 : N < 3
  case pos =>
    have he : WZ = -1 := by rw [← HD.out.1, wholeZ, if_pos (Or.inl (by rw [hN]; exact h3))]
    have HE := Lib.hid he
    have h3z : (N : Int) < 3 := by omega
    clear he
    go_enter Tryz.func40, Tryz.ntmps40
    go_wp2_with fail
    go_ret
    exact ⟨by rw [HE.out]; rfl, Below.refl _ _⟩
  case neg =>
  have h3z : ¬ (N : Int) < 3 := by omega
  obtain ⟨M, hM⟩ : ∃ m, N = m + 3 := ⟨N - 3, by omega⟩
  subst hM
  have ix0 := index_at l 0 (by omega)
  replace ix0 : ∀ w, (Instr.index 9 (.string ⟨l.toArray⟩) (.int .i64 0)).run Tryz.prog w = .ok (.int .u8 (((nats l).getD 0 0 : Nat) : Int)) w := ix0
  have ixe := index_at l (M + 2) (by omega)
  obtain ⟨c0, hc0⟩ : ∃ c, (nats l).getD 0 0 = c := ⟨_, rfl⟩
  obtain ⟨ce, hce⟩ : ∃ c, (nats l).getD (M + 2) 0 = c := ⟨_, rfl⟩
  rw [hc0] at ix0
  rw [hce] at ixe
  have hMl : M + 3 ≤ 1000000 := by rw [← hN]; exact HD.out.2
  have eM : (M : Int) + 3 - 1 = ((M + 2 : Nat) : Int) := by omega
  have h3y : ¬ (M : Int) + 3 < 3 := by omega
  replace ixe : ∀ w, (Instr.index 9 (.string ⟨l.toArray⟩) (.int .i64 ((M : Int) + 3 - 1))).run Tryz.prog w = .ok (.int .u8 (ce : Int)) w := fun w => by rw [eM]; exact ixe w
  obtain ⟨inn, hin⟩ : ∃ x, (l.take (M + 2)).drop 1 = x := ⟨_, rfl⟩
  have hsl : ∀ w, (Instr.slice 9 (.string ⟨l.toArray⟩) (some (.int .i64 1)) (some (.int .i64 ((M : Int) + 3 - 1))) none).run Tryz.prog w = .ok (.string ⟨inn.toArray⟩) w := by
    rw [← hin, eM]
    exact slice_str l 1 (M + 2) (by omega) (by omega)
  have hinl : inn.length = M + 1 := by rw [← hin]; simp; omega
  clear eM
  have hwz : WZ = if c0 ≠ 38 ∨ ce ≠ 59 then -1 else innZ inn := by
    rw [← HD.out.1, wholeZ, hN, show M + 3 - 1 = M + 2 by omega, hc0, hce, hin]
    simp [show ¬ M + 3 < 3 by omega]
  by_cases h0 : c0 = 38
  case neg =>
    have hE := Lib.hid (show WZ = -1 by rw [hwz, if_pos (Or.inl h0)])
    have h01 : ¬ (c0 : Int) = 38 := by omega
    have h02 : ((c0 : Int) == 38) = false := by simp; omega
    clear hwz hsl ixe hc0 hce
    go_enter Tryz.func40, Tryz.ntmps40
    go_wp2_with fail
    go_ret
    exact ⟨by rw [hE.out]; rfl, Below.refl _ _⟩
  case pos =>
  subst h0
  by_cases he : ce = 59
  case neg =>
    have hE := Lib.hid (show WZ = -1 by rw [hwz, if_pos (Or.inr he)])
    have h01 : ¬ (ce : Int) = 59 := by omega
    have h02 : ((ce : Int) == 59) = false := by simp; omega
    clear hwz hsl hc0 hce
    go_enter Tryz.func40, Tryz.ntmps40
    go_wp2_with fail
    go_ret
    exact ⟨by rw [hE.out]; rfl, Below.refl _ _⟩
  case pos =>
  subst he
  have hwz : WZ = innZ inn := by rw [hwz, if_neg (by simp)]
  have ii0 := index_at inn 0 (by omega)
  replace ii0 : ∀ w, (Instr.index 9 (.string ⟨inn.toArray⟩) (.int .i64 0)).run Tryz.prog w = .ok (.int .u8 (((nats inn).getD 0 0 : Nat) : Int)) w := ii0
  have HW := Lib.hid (And.intro hwz ii0)
  clear hwz hc0 hce hin ii0
  go_enter Tryz.func40, Tryz.ntmps40
  go_wp2_with fail
  refine (refNames_any w).mono ?_
  rintro r w1 ⟨rfl, hw1⟩
  have x1 : Cells w1 w.heap.size 100 NR := by rw [hw1]; exact cells_new _ _ _
  have hb1 : Below w.heap.size w w1 := by rw [hw1]; exact below_new _ _
  have H1 := Lib.hid (And.intro x1 hb1)
  clear x1 hb1 hw1
  go_wp2_with fail
  go_loopw [6] (fun i wr => ∃ k : Nat, i = .int .i64 (k : Int) ∧ k ≤ 26 ∧ (∀ (j : Nat) (y : NmE), j < k → nmE[j]? = some y → isNm inn y = false) ∧ wr = w1) (fun i _ => 26 - (RowKit.intOf i).toNat)
  case atStart => exact ⟨0, rfl, by decide, fun j y hj => absurd hj (by omega), rfl⟩
  case round =>
    obtain ⟨k, rfl, hk, hj, rfl⟩ := hrel
    by_cases hlt : k < 26
    case pos =>
      have i1 : (k : Int) < 26 := by omega
      obtain ⟨⟨s, z⟩, hx⟩ := at_lt (l := nmE) (k := k) (by rw [nmE_len]; exact hlt)
      obtain ⟨r0, r1⟩ := NR_at hx
      have c1 : wr.cell? ⟨w.heap.size, k * 2, none⟩ = some (.string ⟨s.toArray⟩) := (Cells.cell H1.out.1 (k * 2)).trans r0
      have c2 : wr.cell? ⟨w.heap.size, k * 2 + 1, none⟩ = some (.int .i32 z) := (Cells.cell H1.out.1 (k * 2 + 1)).trans r1
      by_cases hs : s = inn
      case pos =>
        have hf := (idx_some (p := isNm inn) hx (by simp [isNm, hs]) hj).2
        have hE := Lib.hid (show WZ = z by rw [HW.out.1, innZ, hf])
        have HS := Lib.hid hs
        subst hs
        clear hj hx r0 r1 hf
        go_wp2_with fail
        go_ret
        exact ⟨by first | rfl | (rw [hE.out]; rfl) | (rw [hE.out]) | (rw [← HW.out.1, hE.out]; rfl) | (rw [← HW.out.1, hE.out]), H1.out.2⟩
      case neg =>
        have hs2 : (s == inn) = false := by simpa using hs
        have hend : ∀ (j : Nat) (y : NmE), j < k + 1 → nmE[j]? = some y → isNm inn y = false := fun j y h hy => by
          by_cases e : j = k
          · subst e
            obtain rfl := Option.some.inj (hx.symm.trans hy)
            exact hs2
          · exact hj j y (by omega) hy
        have HE := Lib.hid hend
        clear hend hj hx r0 r1
        go_wp2_with fail
        go_roundw
        case rel => exact ⟨k + 1, by go_num, by omega, HE.out, trivial⟩
        case measure => simp [RowKit.intOf]; omega
    case neg =>
      obtain rfl : k = 26 := by omega
      have hf := (idx_none (p := isNm inn) fun j x hx => hj j x (by have := (List.getElem?_eq_some_iff.1 hx).1; rw [nmE_len] at this; exact this) hx).2
      have hz : WZ = if (nats inn).getD 0 0 ≠ 35 then -1 else if 1 < inn.length ∧ ((nats inn).getD 1 0 = 120 ∨ (nats inn).getD 1 0 = 88) then numZ 16 6 (nats (inn.drop 2)) else numZ 10 7 (nats (inn.drop 1)) := by
        rw [HW.out.1, innZ, hf]
      have ii0 := HW.out.2
      have N2 := fun W => refNumber_any (b := 16) (most := 6) (Or.inr rfl) (by decide) (inn.drop 2) (by rw [List.length_drop]; have := HD.out.2; omega) W
      have N1 := fun W => refNumber_any (b := 10) (most := 7) (Or.inl rfl) (by decide) (inn.drop 1) (by rw [List.length_drop]; have := HD.out.2; omega) W
      have sl1 : ∀ w, (Instr.slice 9 (.string ⟨inn.toArray⟩) (some (.int .i64 1)) none none).run Tryz.prog w = .ok (.string ⟨(inn.drop 1).toArray⟩) w := slice_str_l inn 1 (by omega)
      obtain ⟨t1, ht1⟩ : ∃ t, inn.drop 1 = t := ⟨_, rfl⟩
      rw [ht1] at hz N1 sl1
      obtain ⟨d0, hd0⟩ : ∃ d, (nats inn).getD 0 0 = d := ⟨_, rfl⟩
      obtain ⟨d1, hd1⟩ : ∃ d, (nats inn).getD 1 0 = d := ⟨_, rfl⟩
      rw [hd0] at hz ii0
      rw [hd1] at hz
      by_cases h35 : d0 = 35
      case neg =>
        have h351 : ¬ (d0 : Int) = 35 := by omega
        have h352 : ((d0 : Int) == 35) = false := by simp; omega
        have hE := Lib.hid (show WZ = -1 by rw [hz, if_pos h35])
        clear hz hf hj N1 N2 hd0 hd1 sl1 ht1
        go_wp2_with fail
        go_ret
        exact ⟨by rw [hE.out]; rfl, H1.out.2⟩
      case pos =>
      subst h35
      rw [if_neg (by simp), hinl] at hz
      by_cases hM0 : M = 0
      case pos =>
        have hM1 : ¬ (1 : Int) < (M : Int) + 1 := by omega
        have hM2 : (M : Int) + 1 ≤ 1 := by omega
        have hE := Lib.hid (show WZ = numZ 10 7 (nats t1) by rw [hz, if_neg (by omega)])
        have HN := Lib.hid N1
        clear hz hf hj N1 N2 hd0 hd1 ht1
        go_wp2_with fail
        refine (HN.out _).mono ?_
        rintro r w2 ⟨rfl, rfl⟩
        go_wp2_with fail
        go_ret
        exact ⟨by rw [hE.out]; rfl, H1.out.2⟩
      case neg =>
      have hM1 : (1 : Int) < (M : Int) + 1 := by omega
      have ii1 := index_at inn 1 (by omega)
      replace ii1 : ∀ w, (Instr.index 9 (.string ⟨inn.toArray⟩) (.int .i64 1)).run Tryz.prog w = .ok (.int .u8 (((nats inn).getD 1 0 : Nat) : Int)) w := ii1
      rw [hd1] at ii1
      have sl2 : ∀ w, (Instr.slice 9 (.string ⟨inn.toArray⟩) (some (.int .i64 2)) none none).run Tryz.prog w = .ok (.string ⟨(inn.drop 2).toArray⟩) w := slice_str_l inn 2 (by omega)
      have HN1 := Lib.hid N1
      have HN2 := Lib.hid N2
      clear N1 N2
      by_cases hX : d1 = 120
      case pos =>
        subst hX
        have hE := Lib.hid (show WZ = numZ 16 6 (nats (inn.drop 2)) by rw [hz, if_pos ⟨by omega, Or.inl rfl⟩])
        clear hz hf hj hd0 hd1 ht1
        go_wp2_with fail
        refine (HN2.out _).mono ?_
        rintro r w2 ⟨rfl, rfl⟩
        go_wp2_with fail
        go_ret
        exact ⟨by rw [hE.out]; rfl, H1.out.2⟩
      case neg =>
      have hX1 : ¬ (d1 : Int) = 120 := by omega
      have hX2 : ((d1 : Int) == 120) = false := by simp; omega
      by_cases hY : d1 = 88
      case pos =>
        subst hY
        have hE := Lib.hid (show WZ = numZ 16 6 (nats (inn.drop 2)) by rw [hz, if_pos ⟨by omega, Or.inr rfl⟩])
        clear hz hf hj hd0 hd1 ht1
        go_wp2_with fail
        refine (HN2.out _).mono ?_
        rintro r w2 ⟨rfl, rfl⟩
        go_wp2_with fail
        go_ret
        exact ⟨by rw [hE.out]; rfl, H1.out.2⟩
      case neg =>
        have hY1 : ¬ (d1 : Int) = 88 := by omega
        have hY2 : ((d1 : Int) == 88) = false := by simp; omega
        have hE := Lib.hid (show WZ = numZ 10 7 (nats t1) by rw [hz, if_neg (by
          rintro ⟨_, e | e⟩
          · exact hX e
          · exact hY e)])
        clear hz hf hj hd0 hd1 ht1
        go_wp2_with fail
        refine (HN1.out _).mono ?_
        rintro r w2 ⟨rfl, rfl⟩
        go_wp2_with fail
        go_ret
        exact ⟨by rw [hE.out]; rfl, H1.out.2⟩
end Go.Proofs.YtnedjafpjbfncaaGreatDoor

namespace Go.Proofs.YtnedjafpjbfncaaGreatDoor
open Go.RowKit Go.Shelf Go.Lib Go.Maps Go.Great
attribute [local irreducible] NR ZNR FR nmE NL

def cutT (xs : List Nat) (k n : Nat) : List Nat := (xs.take (k + n)).drop k
/-- All lengths, tried one by one. -/
def refFrom (xs : List Nat) (k : Nat) : Nat → Nat → Int × Nat
  | 0, _ => (0, 0)
  | f + 1, n => if k + n ≤ xs.length then (if 0 ≤ wholeZ (u8s (cutT xs k n)) then (wholeZ (u8s (cutT xs k n)), n) else refFrom xs k f (n + 1)) else (0, 0)
set_option maxHeartbeats 4000000 in
set_option maxRecDepth 100000 in
theorem refReadE_any (w : World) (xs : List Nat) (A : Option Addr) (cap : Nat) (hx : BY w w.heap.size xs A cap) (hlen : xs.length ≤ 1000) (k : Nat) (hk : k < xs.length) :
    Calls Tryz.prog 28 #[.slice A xs.length cap, .int .i64 (k : Int)] w fun e w' => e = .returned (.tuple #[.int .i32 (refFrom xs k 8 3).1, .int .i64 ((refFrom xs k 8 3).2 : Nat)]) ∧ Below w.heap.size w w' := by
  obtain ⟨RE, hRE⟩ : ∃ v, refFrom xs k 8 3 = v := ⟨_, rfl⟩
  rw [hRE]
  obtain ⟨b, o, rfl, hbl, _⟩ := hx.r (by rintro rfl; simp at hk)
  obtain ⟨N, hN⟩ : ∃ n, xs.length = n := ⟨_, rfl⟩
  have HD := Lib.hid (And.intro hRE (And.intro hx (And.intro hlen hk)))
  have hcl := hx.l
  rw [hN] at hlen hk hcl ⊢
  clear hRE hx hbl
  go_enter Tryz.func28, Tryz.ntmps28
  go_wp2_with fail
  go_loopw [6] (fun i wr => ∃ (f n : Nat), i = .int .i64 (n : Int) ∧ f + n = 11 ∧ 3 ≤ n ∧ RE = refFrom xs k f n ∧ Below w.heap.size w wr) (fun i _ => 12 - (RowKit.intOf i).toNat)
  case atStart => exact ⟨8, 3, rfl, rfl, by decide, HD.out.1.symm, Below.refl _ _⟩
  case round =>
    obtain ⟨f, n, rfl, hfn, h3, hre, hb⟩ := hrel
    cases f with
    | zero =>
      have hn : ¬ (n : Int) ≤ 10 := by omega
      have HE := Lib.hid (And.intro (show RE = (0, 0) from hre) hb)
      clear hre hb
      go_wp2_with fail
      refine bodyPost_ret (v := .tuple #[.int .i32 0, .int .i64 0]) ?_ rfl ⟨by rw [HE.out.1]; rfl, HE.out.2⟩
      simp [results, Tryz.results28, go_sem]
    | succ f =>
      have hn : (n : Int) ≤ 10 := by omega
      have wa : wrap64 ((k : Int) + (n : Int)) = (k : Int) + (n : Int) := by unfold wrap64; omega
      rw [refFrom, hN] at hre
      by_cases hkn : k + n ≤ N
      case neg =>
        have hkn2 : ¬ (k : Int) + (n : Int) ≤ (N : Int) := by omega
        rw [if_neg hkn] at hre
        have HE := Lib.hid (And.intro hre hb)
        clear hre hb
        go_wp2_with fail
        refine bodyPost_ret (v := .tuple #[.int .i32 0, .int .i64 0]) ?_ rfl ⟨by rw [HE.out.1]; rfl, HE.out.2⟩
        simp [results, Tryz.results28, go_sem]
      case pos =>
        have hkn2 : (k : Int) + (n : Int) ≤ (N : Int) := by omega
        rw [if_pos hkn] at hre
        have e1 : (k : Int) + (n : Int) = ((k + n : Nat) : Int) := by omega
        have e2 : k + n - k = n := by omega
        have hsl : ∀ W, (Instr.slice 22 (.slice (some ⟨b, o, none⟩) N cap) (some (.int .i64 (k : Int))) (some (.int .i64 ((k : Int) + (n : Int)))) none).run Tryz.prog W = .ok (.slice (some ⟨b, o + k, none⟩) n (cap - k)) W := fun W => by
          have := slice_win b o N cap k (k + n) (by omega) (by omega) (by omega) W
          rw [e2] at this
          rw [e1]
          exact this
        have hcl2 : (cutT xs k n).length = n := by rw [cutT, List.length_drop, List.length_take, hN]; omega
        have hcv := conv_by ((HD.out.2.1.on hb).win k (k + n) (by omega) (by rw [hN]; exact hkn))
        rw [show (xs.take (k + n)).drop k = cutT xs k n from rfl, hcl2] at hcv
        generalize cutT xs k n = C at *
        have K := refWhole_any (u8s C) (by rw [u8s, List.length_map]; omega) wr
        obtain ⟨Z, hZ⟩ : ∃ z, wholeZ (u8s C) = z := ⟨_, rfl⟩
        rw [hZ] at K hre
        by_cases hz : 0 ≤ Z
        case pos =>
          rw [if_pos hz] at hre
          have HE := Lib.hid (And.intro hre (And.intro hb K))
          clear hre hb K e1 e2 hcl2 hZ
          go_wp2_with fail
          refine HE.out.2.2.mono ?_
          rintro e w1 ⟨rfl, hb1⟩
          have HB := Lib.hid (HE.out.2.1.trans (hb1.mono HE.out.2.1.size))
          clear hb1
          go_wp2_with fail
          refine bodyPost_ret (v := .tuple #[.int .i32 Z, .int .i64 (n : Int)]) ?_ rfl ⟨by rw [HE.out.1], HB.out⟩
          simp [results, Tryz.results28, go_sem]
        case neg =>
          rw [if_neg hz] at hre
          have HE := Lib.hid (And.intro hre (And.intro hb K))
          clear hre hb K e1 e2 hcl2 hZ
          go_wp2_with fail
          refine HE.out.2.2.mono ?_
          rintro e w1 ⟨rfl, hb1⟩
          have HB := Lib.hid (HE.out.2.1.trans (hb1.mono HE.out.2.1.size))
          clear hb1
          go_wp2_with fail
          go_roundw
          case rel => exact ⟨f, n + 1, by go_num, by omega, by omega, HE.out.1, HB.out⟩
          case measure => simp [RowKit.intOf]; omega
end Go.Proofs.YtnedjafpjbfncaaGreatDoor

namespace Go.Proofs.YtnedjafpjbfncaaGreatDoor
open Go.RowKit Go.Shelf Go.Lib Go.Maps Go.Great

theorem refFrom_none {xs : List Nat} {k : Nat} : ∀ (f n : Nat), (∀ j, n ≤ j → k + j ≤ xs.length → ¬ 0 ≤ wholeZ (u8s (cutT xs k j))) → refFrom xs k f n = (0, 0)
  | 0, n, _ => rfl
  | f + 1, n, h => by
    rw [refFrom]
    split
    · rename_i hk
      rw [if_neg (h n (Nat.le_refl _) hk), refFrom_none f (n + 1) (fun j hj => h j (by omega))]
    · rfl
theorem refFrom_hit {xs : List Nat} {k p : Nat} (hp : k + p ≤ xs.length) (hw : 0 ≤ wholeZ (u8s (cutT xs k p))) : ∀ (f n : Nat), n ≤ p → p < n + f → (∀ j, n ≤ j → j < p → ¬ 0 ≤ wholeZ (u8s (cutT xs k j))) → refFrom xs k f n = (wholeZ (u8s (cutT xs k p)), p)
  | 0, n, h1, h2, _ => by omega
  | f + 1, n, h1, h2, h => by
    rw [refFrom, if_pos (by omega)]
    by_cases e : n = p
    · subst e
      rw [if_pos hw]
    · rw [if_neg (h n (Nat.le_refl _) (by omega)), refFrom_hit hp hw f (n + 1) (by omega) (by omega) (fun j hj => h j (by omega))]
theorem nm_inn : ∀ x ∈ nmE, 59 ∉ nats x.1 ∧ 2 ≤ x.1.length ∧ x.1.length ≤ 8 ∧ 0 ≤ x.2 ∧ (nats x.1).getD 0 0 ≠ 35 := by decide +kernel
theorem numZ_ok {b most : Nat} {u : List Nat} (h : 0 ≤ numZ b most u) : u ≠ [] ∧ u.length ≤ most ∧ (∀ x ∈ u, dgB b x = true) ∧ numZ b most u = mnR (nbV b u 0) := by
  unfold numZ at h ⊢
  split at h
  · omega
  · rename_i h1
    rw [if_neg h1]
    split at h
    · rename_i h2
      rw [if_pos h2]
      exact ⟨fun e => h1 (Or.inl e), by
        rcases Nat.lt_or_ge most u.length with e | e
        · exact absurd (Or.inr e) h1
        · exact e, List.all_eq_true.1 h2, rfl⟩
    · omega
theorem no59 {b : Nat} (hb : b = 10 ∨ b = 16) : dgB b 59 = false := by rcases hb with rfl | rfl <;> decide
/-- Where a style's bytes are whole, the first ; behind its beginning ends them, and it may stand there. -/
theorem fol_last {may : List Nat → Nat → Bool} {xs : List Nat} {h m : Nat} : ∀ (r : List Nat) (n : Nat), r = xs.drop n → h ≤ n → fol may xs h n r = (m, true) → xs[m - 1]? = some 59 ∧ may ((xs.take (m - 1)).drop h) 59 = true ∧ ∀ j, n ≤ j → j < m - 1 → xs[j]? ≠ some 59
  | [], n, _, _, e => by simp [fol] at e
  | c :: r, n, hr, hh, e => by
    have hx : xs[n]? = some c := by have := congrArg (·[0]?) hr; simpa using this.symm
    have hr2 : r = xs.drop (n + 1) := by
      have := drop_at hx
      rw [← hr] at this
      injection this
    have hft := fun e => fol_true (may := may) (h := h) (m := m) r (n + 1) hr2 (by omega) e
    rw [fol] at e
    split at e
    · rename_i hmay
      split at e
      · rename_i hc
        simp at e
        obtain rfl := e
        subst hc
        refine ⟨by simpa using hx, by simpa using hmay, fun j h1 h2 => by omega⟩
      · rename_i hc
        obtain ⟨h1, h2, h3⟩ := fol_last r (n + 1) hr2 (by omega) e
        refine ⟨h1, h2, fun j hj hjm => ?_⟩
        by_cases e2 : j = n
        · subst e2
          rw [hx]
          intro e3
          injection e3 with e3
          exact hc e3
        · exact h3 j (by omega) hjm
    · simp at e
/-- The other way: what may follow byte for byte, and the ; last, is whole. -/
theorem fol_whole {may : List Nat → Nat → Bool} {xs : List Nat} {h p : Nat} (hp : xs[p]? = some 59) (hl : may ((xs.take p).drop h) 59 = true) (hm : ∀ j c, h ≤ j → j < p → xs[j]? = some c → c ≠ 59 ∧ may ((xs.take j).drop h) c = true) : ∀ (r : List Nat) (n : Nat), r = xs.drop n → h ≤ n → n ≤ p → fol may xs h n r = (p + 1, true)
  | [], n, hr, _, hn => by
    have := congrArg List.length hr
    have h1 := (List.getElem?_eq_some_iff.1 hp).1
    simp at this
    omega
  | c :: r, n, hr, hh, hn => by
    have hx : xs[n]? = some c := by have := congrArg (·[0]?) hr; simpa using this.symm
    have hr2 : r = xs.drop (n + 1) := by
      have := drop_at hx
      rw [← hr] at this
      injection this
    rw [fol]
    by_cases e : n = p
    · subst e
      obtain rfl := Option.some.inj (hx.symm.trans hp)
      rw [if_pos hl, if_pos rfl]
    · obtain ⟨h1, h2⟩ := hm n c hh (by omega) hx
      rw [if_pos h2, if_neg h1]
      exact fol_whole hp hl hm r (n + 1) hr2 (by omega) (by omega)
end Go.Proofs.YtnedjafpjbfncaaGreatDoor

namespace Go.Proofs.YtnedjafpjbfncaaGreatDoor
open Go.RowKit Go.Shelf Go.Lib Go.Maps Go.Great

theorem scR_pos (r : Int) : 0 ≤ scR r := by
  have := (valid_iff (scR r)).1 (scR_valid r)
  omega
theorem mnR_pos (n : Nat) : 0 ≤ mnR n := by
  unfold mnR
  split
  · decide
  · exact scR_pos _
theorem numZ_eq {b most : Nat} {u : List Nat} (h0 : u ≠ []) (hm : u.length ≤ most) (hd : ∀ x ∈ u, dgB b x = true) : numZ b most u = mnR (nbV b u 0) := by
  rw [numZ, if_neg (fun e => e.elim h0 (fun e => absurd hm (by omega))), if_pos (List.all_eq_true.2 hd)]
theorem find_hash {l : List UInt8} (h : (nats l).getD 0 0 = 35) : nmE.find? (isNm l) = none := by
  rw [List.find?_eq_none]
  intro x hx e
  have h1 : x.1 = l := by simpa [isNm] using e
  exact (nm_inn x hx).2.2.2.2 (by rw [h1]; exact h)
theorem nats_drop (l : List UInt8) (k : Nat) : nats (l.drop k) = (nats l).drop k := by simp [nats]
theorem nats_length (l : List UInt8) : (nats l).length = l.length := by simp [nats]
theorem innZ_hex {l : List UInt8} {X : Nat} {ds : List Nat} (hl : nats l = 35 :: X :: ds) (hX : X = 120 ∨ X = 88) (h0 : ds ≠ []) (hm : ds.length ≤ 6) (hd : ∀ x ∈ ds, dgB 16 x = true) : innZ l = mnR (nbV 16 ds 0) := by
  have hf := find_hash (l := l) (by rw [hl]; rfl)
  have hlen : l.length = ds.length + 2 := by rw [← nats_length, hl]; rfl
  rw [innZ, hf]
  simp only
  rw [if_neg (by rw [hl]; simp), if_pos ⟨by omega, by rw [hl]; exact hX⟩, nats_drop, hl]
  exact numZ_eq h0 hm hd
theorem dg10_x {c : Nat} (h : dgB 10 c = true) : c ≠ 120 ∧ c ≠ 88 ∧ c ≠ 59 := by
  refine ⟨?_, ?_, ?_⟩ <;> (rintro rfl; revert h; decide)
theorem dg16_x {c : Nat} (h : dgB 16 c = true) : c ≠ 59 := by
  rintro rfl
  revert h
  decide
theorem innZ_dec {l : List UInt8} {ds : List Nat} (hl : nats l = 35 :: ds) (h0 : ds ≠ []) (hm : ds.length ≤ 7) (hd : ∀ x ∈ ds, dgB 10 x = true) : innZ l = mnR (nbV 10 ds 0) := by
  have hf := find_hash (l := l) (by rw [hl]; rfl)
  have hd0 : ¬ (1 < l.length ∧ ((nats l).getD 1 0 = 120 ∨ (nats l).getD 1 0 = 88)) := by
    rintro ⟨_, e⟩
    rw [hl] at e
    cases ds with
    | nil => exact h0 rfl
    | cons d r =>
      have := dg10_x (hd d (by simp))
      simp at e
      omega
  rw [innZ, hf]
  simp only
  rw [if_neg (by rw [hl]; simp), if_neg hd0, nats_drop, hl]
  exact numZ_eq h0 hm hd
/-- What lies within a reference. -/
theorem innZ_ok {l : List UInt8} (h : 0 ≤ innZ l) : (∃ x, x ∈ nmE ∧ nmE.find? (isNm l) = some x ∧ x.1 = l) ∨ (∃ X ds, nats l = 35 :: X :: ds ∧ (X = 120 ∨ X = 88) ∧ ds ≠ [] ∧ ds.length ≤ 6 ∧ ∀ x ∈ ds, dgB 16 x = true) ∨ (∃ ds, nats l = 35 :: ds ∧ ds ≠ [] ∧ ds.length ≤ 7 ∧ ∀ x ∈ ds, dgB 10 x = true) := by
  unfold innZ at h
  cases hf : nmE.find? (isNm l) with
  | some x => exact Or.inl ⟨x, List.mem_of_find?_eq_some hf, rfl, by simpa [isNm] using List.find?_some hf⟩
  | none =>
    rw [hf] at h
    simp only at h
    split at h
    · omega
    · rename_i h35
      have h35 : (nats l).getD 0 0 = 35 := by omega
      cases hl : nats l with
      | nil => rw [hl] at h35; simp at h35
      | cons c u =>
        obtain rfl : c = 35 := by rw [hl] at h35; simpa using h35
        split at h
        · rename_i hx
          cases u with
          | nil =>
            have := nats_length l
            rw [hl] at this
            simp at this
            omega
          | cons X ds =>
            rw [nats_drop, hl] at h
            obtain ⟨a1, a2, a3, _⟩ := numZ_ok h
            exact Or.inr (Or.inl ⟨X, ds, rfl, by have := hx.2; rw [hl] at this; simpa using this, a1, a2, a3⟩)
        · rw [nats_drop, hl] at h
          obtain ⟨a1, a2, a3, _⟩ := numZ_ok h
          exact Or.inr (Or.inr ⟨u, rfl, a1, a2, a3⟩)
theorem innZ_len {l : List UInt8} (h : 0 ≤ innZ l) : 59 ∉ nats l ∧ 2 ≤ l.length ∧ l.length ≤ 8 := by
  rcases innZ_ok h with ⟨x, hx, _, rfl⟩ | ⟨X, ds, hl, hX, h0, hm, hd⟩ | ⟨ds, hl, h0, hm, hd⟩
  · have := nm_inn x hx
    exact ⟨this.1, this.2.1, this.2.2.1⟩
  · have hlen := nats_length l
    rw [hl] at hlen ⊢
    have h1 : 0 < ds.length := List.length_pos_iff.2 h0
    simp at hlen
    refine ⟨?_, by omega, by omega⟩
    intro hm
    simp only [List.mem_cons] at hm
    rcases hm with e | e | e
    · omega
    · omega
    · exact dg16_x (hd 59 e) rfl
  · have hlen := nats_length l
    rw [hl] at hlen ⊢
    have h1 : 0 < ds.length := List.length_pos_iff.2 h0
    simp at hlen
    refine ⟨?_, by omega, by omega⟩
    intro hm
    simp only [List.mem_cons] at hm
    rcases hm with e | e
    · omega
    · exact (dg10_x (hd 59 e)).2.2 rfl
end Go.Proofs.YtnedjafpjbfncaaGreatDoor

namespace Go.Proofs.YtnedjafpjbfncaaGreatDoor
open Go.RowKit Go.Shelf Go.Lib Go.Maps Go.Great

def inner (ys : List Nat) (n : Nat) : List Nat := (ys.take (n - 1)).drop 1
structure Good (ys : List Nat) (n : Nat) : Prop where
  h3 : 3 ≤ n
  hn : n ≤ ys.length
  he : ys[n - 1]? = some 59
  hi : 0 ≤ innZ (u8s (inner ys n))
theorem inner_len {ys : List Nat} {n : Nat} (h : n ≤ ys.length) : (inner ys n).length = n - 2 := by simp [inner]; omega
theorem inner_at {ys : List Nat} {n j c : Nat} (h1 : 1 ≤ j) (h2 : j < n - 1) (hc : ys[j]? = some c) : (inner ys n)[j - 1]? = some c := by
  rw [inner, List.getElem?_drop, show 1 + (j - 1) = j by omega, List.getElem?_take, if_pos h2, hc]
theorem u8s_lenE (l : List Nat) : (u8s l).length = l.length := by simp [u8s]
theorem inner_lt {ys : List Nat} (h : ∀ x ∈ ys, x < 256) (n : Nat) : ∀ x ∈ inner ys n, x < 256 := fun x hx => h x (List.mem_of_mem_take (List.mem_of_mem_drop hx))
theorem good_no {ys : List Nat} (h256 : ∀ x ∈ ys, x < 256) {n j : Nat} (h : Good ys n) (h1 : 1 ≤ j) (h2 : j < n - 1) : ys[j]? ≠ some 59 := fun hc => by
  have := (innZ_len h.hi).1
  rw [nats_u8s _ (inner_lt h256 n)] at this
  exact this (List.mem_of_getElem? (inner_at h1 h2 hc))
theorem good_uni {ys : List Nat} (h256 : ∀ x ∈ ys, x < 256) {n m : Nat} (h : Good ys n) (h' : Good ys m) : n = m := by
  have a := h.h3
  have b := h'.h3
  rcases Nat.lt_trichotomy n m with e | e | e
  · exact absurd h.he (good_no h256 h' (j := n - 1) (by omega) (by omega))
  · exact e
  · exact absurd h'.he (good_no h256 h (j := m - 1) (by omega) (by omega))
theorem good_10 {ys : List Nat} {n : Nat} (h : Good ys n) : n ≤ 10 ∧ 4 ≤ n := by
  have h1 := (innZ_len h.hi).2
  have h3 := h.h3
  rw [u8s_lenE, inner_len h.hn] at h1
  omega
theorem cut_eq (xs : List Nat) (k n : Nat) : cutT xs k n = (xs.drop k).take n := by
  rw [cutT, List.drop_take]
  congr 1
  omega
theorem whole_eq {ys : List Nat} (h256 : ∀ x ∈ ys, x < 256) {n : Nat} (h3 : 3 ≤ n) (hn : n ≤ ys.length) : wholeZ (u8s (ys.take n)) = if ys.getD 0 0 ≠ 38 ∨ ys.getD (n - 1) 0 ≠ 59 then -1 else innZ (u8s (inner ys n)) := by
  have hl : (ys.take n).length = n := by rw [List.length_take]; omega
  have hN : nats (u8s (ys.take n)) = ys.take n := nats_u8s _ fun x hx => h256 x (List.mem_of_mem_take hx)
  have g0 : (ys.take n).getD 0 0 = ys.getD 0 0 := by
    simp only [List.getD_eq_getElem?_getD, List.getElem?_take]
    rw [if_pos (by omega)]
  have g1 : (ys.take n).getD (n - 1) 0 = ys.getD (n - 1) 0 := by
    simp only [List.getD_eq_getElem?_getD, List.getElem?_take]
    rw [if_pos (by omega)]
  have hin : ((u8s (ys.take n)).take (n - 1)).drop 1 = u8s (inner ys n) := by
    simp only [u8s, inner, List.map_drop, List.map_take, List.take_take]
    rw [show min (n - 1) n = n - 1 by omega]
  rw [wholeZ, u8s_lenE, hl, hN, g0, g1, hin]
  by_cases hc : ys.getD 0 0 ≠ 38 ∨ ys.getD (n - 1) 0 ≠ 59
  · rw [if_pos hc, if_pos (Or.inr hc)]
  · rw [if_neg hc, if_neg (fun e => e.elim (fun e => by omega) hc)]
theorem whole_good {ys : List Nat} (h256 : ∀ x ∈ ys, x < 256) {n : Nat} (h3 : 3 ≤ n) (hn : n ≤ ys.length) (h : 0 ≤ wholeZ (u8s (ys.take n))) : ys.getD 0 0 = 38 ∧ Good ys n := by
  rw [whole_eq h256 h3 hn] at h
  split at h
  · omega
  · rename_i hc
    have c0 : ys.getD 0 0 = 38 := Classical.byContradiction fun e => hc (Or.inl e)
    have c1 : ys.getD (n - 1) 0 = 59 := Classical.byContradiction fun e => hc (Or.inr e)
    refine ⟨c0, h3, hn, ?_, h⟩
    obtain ⟨c, hcc⟩ := at_lt (l := ys) (k := n - 1) (by omega)
    rw [List.getD_eq_getElem?_getD, hcc] at c1
    rw [hcc]
    exact congrArg some c1
theorem good_whole {ys : List Nat} (h256 : ∀ x ∈ ys, x < 256) {n : Nat} (h0 : ys.getD 0 0 = 38) (h : Good ys n) : wholeZ (u8s (ys.take n)) = innZ (u8s (inner ys n)) := by
  rw [whole_eq h256 h.h3 h.hn, if_neg]
  rintro (e | e)
  · exact e h0
  · rw [List.getD_eq_getElem?_getD, h.he] at e
    exact e rfl
/-- What the document's side answers. -/
theorem ref_good {xs : List Nat} {k n : Nat} (h256 : ∀ x ∈ xs.drop k, x < 256) (hk : k < xs.length) (h0 : (xs.drop k).getD 0 0 = 38) (h : Good (xs.drop k) n) : refFrom xs k 8 3 = (innZ (u8s (inner (xs.drop k) n)), n) := by
  have hl : (xs.drop k).length = xs.length - k := List.length_drop
  have hn := h.hn
  have hw := good_whole h256 h0 h
  have := refFrom_hit (xs := xs) (k := k) (p := n) (by omega) (by rw [cut_eq, hw]; exact h.hi) 8 3 h.h3 (by have := (good_10 h).1; omega) (fun j h3 hj hz => by
    rw [cut_eq] at hz
    have := (whole_good h256 h3 (by omega) hz).2
    have := good_uni h256 h this
    omega)
  rw [this, cut_eq, hw]
theorem ref_none {xs : List Nat} {k : Nat} (h256 : ∀ x ∈ xs.drop k, x < 256) (hk : k < xs.length) (h : ∀ n, (xs.drop k).getD 0 0 = 38 → ¬ Good (xs.drop k) n) : refFrom xs k 8 3 = (0, 0) := by
  have hl : (xs.drop k).length = xs.length - k := List.length_drop
  refine refFrom_none 8 3 fun j h3 hj hz => ?_
  rw [cut_eq] at hz
  obtain ⟨a, b⟩ := whole_good h256 h3 (by omega) hz
  exact h j a b
/-- All styles in turn. -/
theorem readS_is {ys : List Nat} {Z : Int} {n : Nat} : ∀ (L : List Sty), (∀ s ∈ L, ∀ m, followR s.beg s.may ys = (m, true) → s.means ((ys.take (m - 1)).drop s.beg.length) = Z ∧ m = n) → (∃ s ∈ L, ∃ m, followR s.beg s.may ys = (m, true)) → readS L ys = (Z, n)
  | [], _, h => by obtain ⟨s, hs, _⟩ := h; cases hs
  | s :: L, h1, h2 => by
    rw [readS]
    obtain ⟨m, b, hf⟩ : ∃ m b, followR s.beg s.may ys = (m, b) := ⟨_, _, rfl⟩
    rw [hf]
    cases b with
    | true =>
      obtain ⟨e1, e2⟩ := h1 s (by simp) m hf
      simp only [if_true]
      rw [e1, e2]
    | false =>
      simp only [Bool.false_eq_true, if_false]
      refine readS_is L (fun s' hs' => h1 s' (by simp [hs'])) ?_
      obtain ⟨s', hs', m', hf'⟩ := h2
      rcases List.mem_cons.1 hs' with rfl | hs'
      · rw [hf] at hf'
        cases hf'
      · exact ⟨s', hs', m', hf'⟩
theorem readS_none {ys : List Nat} : ∀ (L : List Sty), (∀ s ∈ L, ∀ m, followR s.beg s.may ys ≠ (m, true)) → readS L ys = (0, 0)
  | [], _ => rfl
  | s :: L, h1 => by
    rw [readS]
    obtain ⟨m, b, hf⟩ : ∃ m b, followR s.beg s.may ys = (m, b) := ⟨_, _, rfl⟩
    rw [hf]
    cases b with
    | true => exact absurd hf (h1 s (by simp) m)
    | false =>
      simp only [Bool.false_eq_true, if_false]
      exact readS_none L fun s' hs' => h1 s' (by simp [hs'])
end Go.Proofs.YtnedjafpjbfncaaGreatDoor

namespace Go.Proofs.YtnedjafpjbfncaaGreatDoor
open Go.RowKit Go.Shelf Go.Lib Go.Maps Go.Great

theorem isMy_59 (l : List Nat) : isMy l 59 = isNm (u8s l) := by
  funext x
  rw [isMy, if_pos rfl]
  rfl
theorem style_n {ys : List Nat} (_h256 : ∀ x ∈ ys, x < 256) {m : Nat} (h : followR [38] mayNm ys = (m, true)) : Good ys m ∧ nmR (u8s ((ys.take (m - 1)).drop 1)) = innZ (u8s (inner ys m)) := by
  have hm := follow_true h
  simp only [List.length_singleton] at hm
  rw [followR] at h
  split at h
  · obtain ⟨h1, h2, _⟩ := fol_last (may := mayNm) (xs := ys) (h := 1) (m := m) _ 1 rfl (Nat.le_refl _) h
    rw [mayNm, isMy_59] at h2
    obtain ⟨x, hx⟩ := Option.isSome_iff_exists.1 h2
    have hxm := List.mem_of_find?_eq_some hx
    have he : x.1 = u8s (inner ys m) := by
      have hb : isNm (u8s (inner ys m)) x = true := List.find?_some hx
      exact eq_of_beq hb
    have hnx := nm_inn x hxm
    have hZ : innZ (u8s (inner ys m)) = x.2 := by rw [innZ, show nmE.find? (isNm (u8s (inner ys m))) = some x from hx]
    have hlen : (inner ys m).length = m - 2 := inner_len hm.2
    have h2l := hnx.2.1
    rw [he, u8s_lenE, hlen] at h2l
    refine ⟨⟨by omega, hm.2, h1, by rw [hZ]; exact hnx.2.2.2.1⟩, ?_⟩
    rw [hZ, nmR, show nmE.find? (isNm (u8s ((ys.take (m - 1)).drop 1))) = some x from hx]
    rfl
  · simp at h
theorem style_d {ys : List Nat} (h256 : ∀ x ∈ ys, x < 256) {m : Nat} (h : followR [38, 35] (mayD 10 7) ys = (m, true)) : Good ys m ∧ mnR (nbV 10 ((ys.take (m - 1)).drop 2) 0) = innZ (u8s (inner ys m)) := by
  have hm := follow_true h
  obtain ⟨a1, a2, a3⟩ := follow_num h
  simp only [List.length_cons, List.length_nil, Nat.zero_add, Nat.reduceAdd] at hm a1 a2 a3
  rw [followR] at h
  split at h
  · rename_i hp
    obtain ⟨h1, _, _⟩ := fol_last (may := mayD 10 7) (xs := ys) (h := 2) (m := m) _ 2 rfl (Nat.le_refl _) h
    obtain ⟨t, rfl⟩ := List.isPrefixOf_iff_prefix.1 hp
    obtain ⟨q, rfl⟩ : ∃ q, m = q + 3 := ⟨m - 3, by omega⟩
    have hi : inner (nats [38, 35] ++ t) (q + 3) = 35 :: t.take q := by simp [inner, nats]
    have hd : (List.take (q + 3 - 1) (nats [38, 35] ++ t)).drop 2 = t.take q := by simp [nats]
    have hn : nats (u8s (inner (nats [38, 35] ++ t) (q + 3))) = 35 :: t.take q := by rw [nats_u8s _ (inner_lt h256 _), hi]
    rw [hd] at a1 a2 a3
    have hz := innZ_dec hn a2 a3 a1
    refine ⟨⟨by omega, hm.2, h1, by rw [hz]; exact mnR_pos _⟩, ?_⟩
    rw [hz]
    exact congrArg (fun u => mnR (nbV 10 u 0)) hd
  · simp at h
theorem style_h {X : UInt8} (hX : X.toNat = 120 ∨ X.toNat = 88) {ys : List Nat} (h256 : ∀ x ∈ ys, x < 256) {m : Nat} (h : followR [38, 35, X] (mayD 16 6) ys = (m, true)) : Good ys m ∧ mnR (nbV 16 ((ys.take (m - 1)).drop 3) 0) = innZ (u8s (inner ys m)) := by
  have hm := follow_true h
  obtain ⟨a1, a2, a3⟩ := follow_num h
  simp only [List.length_cons, List.length_nil, Nat.zero_add, Nat.reduceAdd] at hm a1 a2 a3
  rw [followR] at h
  split at h
  · rename_i hp
    obtain ⟨h1, _, _⟩ := fol_last (may := mayD 16 6) (xs := ys) (h := 3) (m := m) _ 3 rfl (Nat.le_refl _) h
    obtain ⟨t, rfl⟩ := List.isPrefixOf_iff_prefix.1 hp
    obtain ⟨q, rfl⟩ : ∃ q, m = q + 4 := ⟨m - 4, by omega⟩
    have hi : inner (nats [38, 35, X] ++ t) (q + 4) = 35 :: X.toNat :: t.take q := by simp [inner, nats]
    have hd : (List.take (q + 4 - 1) (nats [38, 35, X] ++ t)).drop 3 = t.take q := by simp [nats]
    have hn : nats (u8s (inner (nats [38, 35, X] ++ t) (q + 4))) = 35 :: X.toNat :: t.take q := by rw [nats_u8s _ (inner_lt h256 _), hi]
    rw [hd] at a1 a2 a3
    have hz := innZ_hex hn hX a2 a3 a1
    refine ⟨⟨by omega, hm.2, h1, by rw [hz]; exact mnR_pos _⟩, ?_⟩
    rw [hz, hd]
  · simp at h
theorem styles_good {ys : List Nat} (h256 : ∀ x ∈ ys, x < 256) : ∀ s ∈ styL, ∀ m, followR s.beg s.may ys = (m, true) → Good ys m ∧ s.means ((ys.take (m - 1)).drop s.beg.length) = innZ (u8s (inner ys m)) := by
  intro s hs m h
  simp only [styL, List.mem_cons, List.not_mem_nil, or_false] at hs
  rcases hs with rfl | rfl | rfl | rfl
  · exact style_n h256 h
  · exact style_d h256 h
  · exact style_h (X := 120) (Or.inl rfl) h256 h
  · exact style_h (X := 88) (Or.inr rfl) h256 h
theorem good_pref {ys : List Nat} {n : Nat} (h0 : ys.getD 0 0 = 38) (h : Good ys n) : ys = 38 :: (inner ys n ++ ys.drop (n - 1)) := by
  cases ys with
  | nil => have := h.h3; have := h.hn; simp at this; omega
  | cons y t =>
    obtain rfl : y = 38 := by simpa using h0
    have h3 := h.h3
    obtain ⟨q, rfl⟩ : ∃ q, n = q + 2 := ⟨n - 2, by omega⟩
    simp [inner]
theorem good_style {ys : List Nat} (h256 : ∀ x ∈ ys, x < 256) {n : Nat} (h0 : ys.getD 0 0 = 38) (h : Good ys n) : ∃ s ∈ styL, ∃ m, followR s.beg s.may ys = (m, true) := by
  have hp := good_pref h0 h
  have hN : nats (u8s (inner ys n)) = inner ys n := nats_u8s _ (inner_lt h256 n)
  have hn3 := h.h3
  have no := fun j c (h1 : 1 ≤ j) (h2 : j < n - 1) (hc : ys[j]? = some c) => show c ≠ 59 from fun e => good_no h256 h h1 h2 (by rw [hc, e])
  have take1 : ∀ j, 1 ≤ j → j < n - 1 → (ys.take j).drop 1 = (inner ys n).take (j - 1) := fun j h1 h2 => by
    rw [inner, List.take_drop, List.take_take, show min (1 + (j - 1)) (n - 1) = j by omega]
  rcases innZ_ok h.hi with ⟨x, hx, hf, he⟩ | ⟨X, ds, hl, hX, d0, dm, dd⟩ | ⟨ds, hl, d0, dm, dd⟩
  · refine ⟨stN, by simp [styL], n - 1 + 1, ?_⟩
    show followR [38] mayNm ys = _
    have hpre : (nats [38]).isPrefixOf ys = true := by rw [hp]; rfl
    rw [followR, if_pos hpre]
    refine fol_whole h.he ?_ ?_ _ 1 rfl (Nat.le_refl _) (by omega)
    · show (nmE.find? (isMy (inner ys n) 59)).isSome = true
      rw [isMy_59, hf]
      rfl
    · intro j c h1 h2 hc
      have hne := no j c h1 h2 hc
      refine ⟨hne, ?_⟩
      show (nmE.find? (isMy ((ys.take j).drop 1) c)).isSome = true
      rw [take1 j h1 h2, List.find?_isSome]
      refine ⟨x, hx, ?_⟩
      have hil := inner_len h.hn
      have hxl : x.1.length = n - 2 := by rw [he, u8s_lenE, hil]
      have htl : ((inner ys n).take (j - 1)).length = j - 1 := by rw [List.length_take]; omega
      rw [isMy, if_neg hne, htl, hxl]
      have e1 : x.1.take (j - 1) = u8s ((inner ys n).take (j - 1)) := by rw [he]; simp [u8s, List.map_take]
      have e2 : (nats x.1).getD (j - 1) 0 = c := by rw [he, hN, List.getD_eq_getElem?_getD, inner_at h1 h2 hc]; rfl
      rw [e1, e2]
      have e3 : j - 1 < n - 2 := by omega
      simp [e3]
  · rw [hN] at hl
    have hil := inner_len h.hn
    rw [hl] at hil
    simp at hil
    rw [hl] at hp
    have hXX : (UInt8.ofNat X).toNat = X := by rcases hX with rfl | rfl <;> rfl
    have hdn : (ys.take (n - 1)).drop 3 = ds := by
      have : (ys.take (n - 1)).drop 3 = ((ys.take (n - 1)).drop 1).drop 2 := by rw [List.drop_drop]
      rw [this]
      show (inner ys n).drop 2 = ds
      rw [hl]
      rfl
    have key : followR [38, 35, UInt8.ofNat X] (mayD 16 6) ys = (n - 1 + 1, true) := by
      have hpre : (nats [38, 35, UInt8.ofNat X]).isPrefixOf ys = true := by
        rw [hp]
        simp only [nats, List.map_cons, List.map_nil, hXX]
        simp
      rw [followR, if_pos hpre]
      refine fol_whole h.he ?_ ?_ _ 3 rfl (Nat.le_refl _) (by have := List.length_pos_iff.2 d0; omega)
      · show mayD 16 6 ((ys.take (n - 1)).drop 3) 59 = true
        rw [hdn, mayD, if_pos rfl]
        simpa using List.length_pos_iff.2 d0
      · intro j c h1 h2 hc
        have h1 : 3 ≤ j := h1
        have hne := no j c (by omega) h2 hc
        refine ⟨hne, ?_⟩
        have hcd : c ∈ ds := by
          have := inner_at (n := n) (by omega) h2 hc
          rw [hl, show j - 1 = (j - 3) + 2 by omega] at this
          exact List.mem_of_getElem? (by simpa using this)
        rw [mayD, if_neg hne, dd c hcd]
        have : ((ys.take j).drop 3).length = j - 3 := by rw [List.length_drop, List.length_take]; have := h.hn; omega
        show (decide (((ys.take j).drop 3).length < 6) && true) = true
        rw [this]
        simp
        omega
    rcases hX with rfl | rfl
    · exact ⟨stD [38, 35, 120] 16 6, by simp [styL], _, key⟩
    · exact ⟨stD [38, 35, 88] 16 6, by simp [styL], _, key⟩
  · rw [hN] at hl
    have hil := inner_len h.hn
    rw [hl] at hil
    simp at hil
    rw [hl] at hp
    have hdn : (ys.take (n - 1)).drop 2 = ds := by
      have : (ys.take (n - 1)).drop 2 = ((ys.take (n - 1)).drop 1).drop 1 := by rw [List.drop_drop]
      rw [this]
      show (inner ys n).drop 1 = ds
      rw [hl]
      rfl
    refine ⟨stD [38, 35] 10 7, by simp [styL], n - 1 + 1, ?_⟩
    show followR [38, 35] (mayD 10 7) ys = _
    have hpre : (nats [38, 35]).isPrefixOf ys = true := by
      rw [hp]
      simp [nats]
    rw [followR, if_pos hpre]
    refine fol_whole h.he ?_ ?_ _ 2 rfl (Nat.le_refl _) (by have := List.length_pos_iff.2 d0; omega)
    · show mayD 10 7 ((ys.take (n - 1)).drop 2) 59 = true
      rw [hdn, mayD, if_pos rfl]
      simpa using List.length_pos_iff.2 d0
    · intro j c h1 h2 hc
      have h1 : 2 ≤ j := h1
      have hne := no j c (by omega) h2 hc
      refine ⟨hne, ?_⟩
      have hcd : c ∈ ds := by
        have := inner_at (n := n) (by omega) h2 hc
        rw [hl, show j - 1 = (j - 2) + 1 by omega] at this
        exact List.mem_of_getElem? (by simpa using this)
      rw [mayD, if_neg hne, dd c hcd]
      have : ((ys.take j).drop 2).length = j - 2 := by rw [List.length_drop, List.length_take]; have := h.hn; omega
      show (decide (((ys.take j).drop 2).length < 7) && true) = true
      rw [this]
      simp
      omega
theorem read_same (xs : List Nat) (h256 : ∀ x ∈ xs, x < 256) (k : Nat) (hk : k < xs.length) : readE xs (k : Int) = refFrom xs k 8 3 := by
  have hd : ∀ x ∈ xs.drop k, x < 256 := fun x hx => h256 x (List.mem_of_mem_drop hx)
  have hg : xs.getD k 0 = (xs.drop k).getD 0 0 := by simp [List.getD_eq_getElem?_getD]
  rw [readE, if_neg (by omega), Int.toNat_natCast, hg]
  by_cases h0 : (xs.drop k).getD 0 0 = 38
  · rw [if_pos h0]
    by_cases hG : ∃ n, Good (xs.drop k) n
    · obtain ⟨n, hn⟩ := hG
      rw [ref_good hd hk h0 hn]
      refine readS_is styL (fun s hs m hf => ?_) (good_style hd h0 hn)
      obtain ⟨g, e⟩ := styles_good hd s hs m hf
      obtain rfl := good_uni hd g hn
      exact ⟨e, rfl⟩
    · rw [ref_none hd hk (fun n _ h => hG ⟨n, h⟩)]
      exact readS_none styL fun s hs m hf => hG ⟨m, (styles_good hd s hs m hf).1⟩
  · rw [if_neg h0, ref_none hd hk (fun n h _ => h0 h)]
end Go.Proofs.YtnedjafpjbfncaaGreatDoor

namespace Go.Proofs.YtnedjafpjbfncaaGreatDoor
open Go.RowKit Go.Shelf Go.Lib Go.Maps

theorem inR_yes {lo hi c : Nat} (h1 : lo ≤ c) (h2 : c ≤ hi) : inR lo hi c = true := by simp [inR, h1, h2]
theorem inR_no {lo hi c : Nat} (h : c < lo ∨ hi < c) : inR lo hi c = false := by simp [inR]; omega
theorem rr_nil (st n : Nat) : refR st n [] = ⟨n, false, true, 0⟩ := by rw [refR]
theorem rr0_91 (n : Nat) (r : List Nat) : refR 0 n (91 :: r) = refR 1 (n + 1) r := by rw [refR, if_pos rfl, if_pos rfl]
theorem rr0_mid {n c : Nat} {r : List Nat} (h : c ≠ 91) (h1 : 64 ≤ c) (h2 : c ≤ 95) : refR 0 n (c :: r) = ⟨2, true, false, c⟩ := by rw [refR, if_pos rfl, if_neg h, if_pos (inR_yes h1 h2)]
theorem rr0_no {n c : Nat} {r : List Nat} (h1 : c < 64 ∨ 95 < c) : refR 0 n (c :: r) = ⟨1, false, false, 0⟩ := by rw [refR, if_pos rfl, if_neg (by omega), if_neg (by simp [inR_no h1])]
theorem rr1_par {n c : Nat} {r : List Nat} (h1 : 48 ≤ c) (h2 : c ≤ 63) : refR 1 n (c :: r) = refR 1 (n + 1) r := by rw [refR, if_neg (by decide), if_pos ⟨rfl, inR_yes h1 h2⟩]
theorem rrS_int {st n c : Nat} {r : List Nat} (hs : st ≠ 0) (h1 : 32 ≤ c) (h2 : c ≤ 47) : refR st n (c :: r) = refR 2 (n + 1) r := by
  rw [refR, if_neg hs, if_neg (by simp [inR_no (show c < 48 ∨ 63 < c by omega)]), if_pos (inR_yes h1 h2)]
theorem rrS_fin {st n c : Nat} {r : List Nat} (hs : st ≠ 0) (h1 : 64 ≤ c) (h2 : c ≤ 126) : refR st n (c :: r) = ⟨n + 1, true, false, c⟩ := by
  rw [refR, if_neg hs, if_neg (by simp [inR_no (show c < 48 ∨ 63 < c by omega)]), if_neg (by simp [inR_no (show c < 32 ∨ 47 < c by omega)]), if_pos (inR_yes h1 h2)]
theorem rrS_no {st n c : Nat} {r : List Nat} (hs : st ≠ 0) (h : c < 32 ∨ 126 < c ∨ (st = 2 ∧ 48 ≤ c ∧ c ≤ 63)) : refR st n (c :: r) = ⟨n, false, false, 0⟩ := by
  have a : ¬ (st = 1 ∧ inR 48 63 c = true) := by
    rintro ⟨h1, h2⟩
    simp [inR] at h2
    omega
  rw [refR, if_neg hs, if_neg a, if_neg (by simp [inR_no (show c < 32 ∨ 47 < c by omega)]), if_neg (by simp [inR_no (show c < 64 ∨ 126 < c by omega)])]
set_option maxHeartbeats 8000000 in
set_option maxRecDepth 100000 in
/-- The document's Read. -/
theorem refRead_any (xs : List Nat) (A : Option Addr) (cap : Nat) (I : Int) (w : World) (h : BY w w.heap.size xs A cap) :
    Calls Tryz.prog 29 #[.slice A xs.length cap, .int .i64 I] w fun r w' => r = .returned (escV (readAt xs I)) ∧ Below w.heap.size w w' := by
  have hlen := h.len
  obtain ⟨N, hN⟩ : ∃ N, xs.length = N := ⟨_, rfl⟩
  rw [hN] at hlen ⊢
  by_cases h0 : I < 0
  · have d0 : decide (I < 0) = true := by simpa using h0
    rw [show readAt xs I = escNone by rw [readAt, if_pos h0]]
    clear h hN
    go_enter Tryz.func29, Tryz.ntmps29
    go_wp2_with fail
    refine bodyPost_ret (v := .agg #[.int .i64 0, .bool false, .bool false, .int .u8 0]) (by simp [results, Tryz.results29, go_sem]) rfl ⟨rfl, below_new w _⟩
  have d0 : decide (I < 0) = false := by simpa using h0
  obtain ⟨k, rfl⟩ := Int.eq_ofNat_of_zero_le (show 0 ≤ I by omega)
  rw [show readAt xs (k : Int) = readT (xs.drop k) by rw [readAt, if_neg h0, Int.toNat_natCast]]
  clear h0
  by_cases hlt : k < N
  case neg =>
    have d1 : decide ((N : Int) ≤ (k : Int)) = true := by simp; omega
    rw [List.drop_of_length_le (by omega)]
    clear h hN
    go_enter Tryz.func29, Tryz.ntmps29
    go_wp2_with fail
    refine bodyPost_ret (v := .agg #[.int .i64 0, .bool false, .bool false, .int .u8 0]) (by simp [results, Tryz.results29, go_sem]) rfl ⟨rfl, below_new w _⟩
  have d1 : decide ((N : Int) ≤ (k : Int)) = false := by simp; omega
  obtain ⟨x, hx⟩ := at_lt (l := xs) (k := k) (by rw [hN]; exact hlt)
  obtain ⟨b, o, rfl, hbl, e0⟩ := h.at hx
  have hcap := h.l
  have hmx := h.m
  unfold maxLen at hmx
  rw [hN] at hcap
  by_cases hc : x = 27
  case neg =>
    have d2 : ((x : Int) != 27) = true := by rw [bne_iff_ne]; omega
    rw [drop_at hx, readT_not _ hc]
    clear h hN hx hc
    generalize (x : Int) = X at *
    go_enter Tryz.func29, Tryz.ntmps29
    go_wp2_with fail
    refine bodyPost_ret (v := .agg #[.int .i64 0, .bool false, .bool false, .int .u8 0]) (by simp [results, Tryz.results29, go_sem]) rfl ⟨rfl, below_new w _⟩
  subst hc
  have e0 : w.cell? ⟨b, o + k, none⟩ = some (.int .u8 27) := e0
  obtain ⟨R, hR⟩ : ∃ R, readT (xs.drop k) = R := ⟨_, rfl⟩
  rw [hR]
  rw [drop_at hx, ← ref_read] at hR
  have HH := Lib.hid (And.intro hR (And.intro h hN))
  clear hR h hN hx
  go_enter Tryz.func29, Tryz.ntmps29
  go_wp2_with fail
  go_loopw [5, 6, 7, 8] (fun s i _ _ wr => ∃ st j m : Nat, s = .int .i64 (st : Int) ∧ i = .int .i64 (j : Int) ∧ j = k + m ∧ j ≤ N ∧ 1 ≤ m ∧ st ≤ 2 ∧ refR st m (xs.drop j) = R ∧ wr = w.alloc (.cells #[.int .i64 0, .bool false, .bool false, .int .u8 0] 62)) (fun _ i _ _ _ => N - (RowKit.intOf i).toNat)
  case atStart => exact ⟨0, k + 1, 1, rfl, by go_num, rfl, by omega, by omega, by omega, HH.out.1, rfl⟩
  case round =>
    obtain ⟨st, j, m, rfl, rfl, hjm, hj, hm, hst, hke, rfl⟩ := hrel
    have hsub : (j : Int) - (k : Int) = (m : Int) := by omega
    by_cases hlt2 : j < N
    case neg =>
      obtain rfl : j = N := by omega
      have i1 : ¬ (j : Int) < (j : Int) := by omega
      have hn : R = ⟨m, false, true, 0⟩ := by rw [← hke, ← HH.out.2.2, List.drop_length, rr_nil]
      subst hn
      clear hke hjm
      go_wp2_with fail
      refine bodyPost_ret (v := .agg #[.int .i64 (m : Int), .bool false, .bool true, .int .u8 0]) (by simp [results, Tryz.results29, go_sem]) rfl ⟨rfl, below_new w _⟩
    have i1 : (j : Int) < (N : Int) := by omega
    obtain ⟨c, hc⟩ := at_lt (l := xs) (k := j) (by rw [HH.out.2.2]; exact hlt2)
    obtain ⟨b', o', e, _, e1⟩ := HH.out.2.1.at hc
    obtain ⟨rfl, rfl⟩ : b = b' ∧ o = o' := by simpa using e
    rw [drop_at hc] at hke
    have hnx : j + 1 = k + (m + 1) := by omega
    obtain ⟨C, hC⟩ : ∃ C : Int, (c : Int) = C := ⟨_, rfl⟩
    rw [hC] at e1
    clear hc e
    rcases (show st = 0 ∨ st = 1 ∨ st = 2 by omega) with rfl | rfl | rfl
    · by_cases h91 : c = 91
      · subst h91
        have c1 : (C == 91) = true := by rw [beq_iff_eq]; omega
        rw [rr0_91] at hke
        have HK := Lib.hid hke
        have HC := Lib.hid hC
        have HS := Lib.hid (And.intro hnx hjm)
        clear hke hC hnx hjm 
        go_wp2_with fail
        go_roundw
        case rel => exact ⟨1, j + 1, m + 1, rfl, by go_num, HS.out.1, by omega, by omega, by omega, HK.out, trivial⟩
        case measure => simp [RowKit.intOf]; omega
      · by_cases hm2 : 64 ≤ c ∧ c ≤ 95
        · obtain ⟨ha, hb⟩ := hm2
          have c1 : (C == 91) = false := by rw [beq_eq_false_iff_ne]; omega
          have c2 : (decide (64 ≤ C)) = true := by simp; omega
          have c3 : (decide (C ≤ 95)) = true := by simp; omega
          rw [rr0_mid h91 ha hb] at hke
          subst hke
          have HC := Lib.hid hC
          clear hC hnx hjm h91 ha hb
          go_wp2_with fail
          refine bodyPost_ret (v := .agg #[.int .i64 2, .bool true, .bool false, .int .u8 C]) (by simp [results, Tryz.results29, go_sem]) rfl ⟨by rw [← HC.out]; rfl, below_new w _⟩
        · by_cases hlo : c < 64
          · have c1 : (C == 91) = false := by rw [beq_eq_false_iff_ne]; omega
            have c2 : (decide (64 ≤ C)) = false := by simp; omega
            rw [rr0_no (.inl hlo)] at hke
            subst hke
            have HC := Lib.hid hC
            clear hC hnx hjm h91 hm2 hlo
            go_wp2_with fail
            refine bodyPost_ret (v := .agg #[.int .i64 1, .bool false, .bool false, .int .u8 0]) (by simp [results, Tryz.results29, go_sem]) rfl ⟨rfl, below_new w _⟩
          · have c1 : (C == 91) = false := by rw [beq_eq_false_iff_ne]; omega
            have c2 : (decide (64 ≤ C)) = true := by simp; omega
            have c3 : (decide (C ≤ 95)) = false := by simp; omega
            rw [rr0_no (.inr (by omega))] at hke
            subst hke
            have HC := Lib.hid hC
            clear hC hnx hjm h91 hm2 hlo
            go_wp2_with fail
            refine bodyPost_ret (v := .agg #[.int .i64 1, .bool false, .bool false, .int .u8 0]) (by simp [results, Tryz.results29, go_sem]) rfl ⟨rfl, below_new w _⟩
    · rcases (show c < 32 ∨ (32 ≤ c ∧ c ≤ 47) ∨ (48 ≤ c ∧ c ≤ 63) ∨ (64 ≤ c ∧ c ≤ 126) ∨ 126 < c by omega) with h | h | h | h | h
      · have a48 : (decide (48 ≤ C)) = false := by simp; omega
        have b63 : (decide (C ≤ 63)) = true := by simp; omega
        have a32 : (decide (32 ≤ C)) = false := by simp; omega
        have b47 : (decide (C ≤ 47)) = true := by simp; omega
        have a64 : (decide (64 ≤ C)) = false := by simp; omega
        have b126 : (decide (C ≤ 126)) = true := by simp; omega
        rw [rrS_no (by decide) (.inl h)] at hke
        subst hke
        have HC := Lib.hid hC
        clear hC hnx hjm h
        go_wp2_with fail
        refine bodyPost_ret (v := .agg #[.int .i64 (m : Int), .bool false, .bool false, .int .u8 0]) (by simp [results, Tryz.results29, go_sem]) rfl ⟨rfl, below_new w _⟩
      · have a48 : (decide (48 ≤ C)) = false := by simp; omega
        have b63 : (decide (C ≤ 63)) = true := by simp; omega
        have a32 : (decide (32 ≤ C)) = true := by simp; omega
        have b47 : (decide (C ≤ 47)) = true := by simp; omega
        have a64 : (decide (64 ≤ C)) = false := by simp; omega
        have b126 : (decide (C ≤ 126)) = true := by simp; omega
        rw [rrS_int (by decide) h.1 h.2] at hke
        have HK := Lib.hid hke
        have HC := Lib.hid hC
        have HS := Lib.hid (And.intro hnx hjm)
        clear hke hC hnx hjm h
        go_wp2_with fail
        go_roundw
        case rel => exact ⟨2, j + 1, m + 1, rfl, by go_num, HS.out.1, by omega, by omega, by omega, HK.out, trivial⟩
        case measure => simp [RowKit.intOf]; omega
      · have a48 : (decide (48 ≤ C)) = true := by simp; omega
        have b63 : (decide (C ≤ 63)) = true := by simp; omega
        have a32 : (decide (32 ≤ C)) = true := by simp; omega
        have b47 : (decide (C ≤ 47)) = false := by simp; omega
        have a64 : (decide (64 ≤ C)) = false := by simp; omega
        have b126 : (decide (C ≤ 126)) = true := by simp; omega
        rw [rr1_par h.1 h.2] at hke
        have HK := Lib.hid hke
        have HC := Lib.hid hC
        have HS := Lib.hid (And.intro hnx hjm)
        clear hke hC hnx hjm h
        go_wp2_with fail
        go_roundw
        case rel => exact ⟨1, j + 1, m + 1, rfl, by go_num, HS.out.1, by omega, by omega, by omega, HK.out, trivial⟩
        case measure => simp [RowKit.intOf]; omega
      · have a48 : (decide (48 ≤ C)) = true := by simp; omega
        have b63 : (decide (C ≤ 63)) = false := by simp; omega
        have a32 : (decide (32 ≤ C)) = true := by simp; omega
        have b47 : (decide (C ≤ 47)) = false := by simp; omega
        have a64 : (decide (64 ≤ C)) = true := by simp; omega
        have b126 : (decide (C ≤ 126)) = true := by simp; omega
        rw [rrS_fin (by decide) h.1 h.2] at hke
        subst hke
        have HC := Lib.hid hC
        clear hC hnx hjm h
        go_wp2_with fail
        refine bodyPost_ret (v := .agg #[.int .i64 ((m : Int) + 1), .bool true, .bool false, .int .u8 C]) (by simp [results, Tryz.results29, go_sem]) rfl ⟨by rw [← HC.out]; rfl, below_new w _⟩
      · have a48 : (decide (48 ≤ C)) = true := by simp; omega
        have b63 : (decide (C ≤ 63)) = false := by simp; omega
        have a32 : (decide (32 ≤ C)) = true := by simp; omega
        have b47 : (decide (C ≤ 47)) = false := by simp; omega
        have a64 : (decide (64 ≤ C)) = true := by simp; omega
        have b126 : (decide (C ≤ 126)) = false := by simp; omega
        rw [rrS_no (by decide) (.inr (.inl h))] at hke
        subst hke
        have HC := Lib.hid hC
        clear hC hnx hjm h
        go_wp2_with fail
        refine bodyPost_ret (v := .agg #[.int .i64 (m : Int), .bool false, .bool false, .int .u8 0]) (by simp [results, Tryz.results29, go_sem]) rfl ⟨rfl, below_new w _⟩
    · rcases (show c < 32 ∨ (32 ≤ c ∧ c ≤ 47) ∨ (48 ≤ c ∧ c ≤ 63) ∨ (64 ≤ c ∧ c ≤ 126) ∨ 126 < c by omega) with h | h | h | h | h
      · have a48 : (decide (48 ≤ C)) = false := by simp; omega
        have b63 : (decide (C ≤ 63)) = true := by simp; omega
        have a32 : (decide (32 ≤ C)) = false := by simp; omega
        have b47 : (decide (C ≤ 47)) = true := by simp; omega
        have a64 : (decide (64 ≤ C)) = false := by simp; omega
        have b126 : (decide (C ≤ 126)) = true := by simp; omega
        rw [rrS_no (by decide) (.inl h)] at hke
        subst hke
        have HC := Lib.hid hC
        clear hC hnx hjm h
        go_wp2_with fail
        refine bodyPost_ret (v := .agg #[.int .i64 (m : Int), .bool false, .bool false, .int .u8 0]) (by simp [results, Tryz.results29, go_sem]) rfl ⟨rfl, below_new w _⟩
      · have a48 : (decide (48 ≤ C)) = false := by simp; omega
        have b63 : (decide (C ≤ 63)) = true := by simp; omega
        have a32 : (decide (32 ≤ C)) = true := by simp; omega
        have b47 : (decide (C ≤ 47)) = true := by simp; omega
        have a64 : (decide (64 ≤ C)) = false := by simp; omega
        have b126 : (decide (C ≤ 126)) = true := by simp; omega
        rw [rrS_int (by decide) h.1 h.2] at hke
        have HK := Lib.hid hke
        have HC := Lib.hid hC
        have HS := Lib.hid (And.intro hnx hjm)
        clear hke hC hnx hjm h
        go_wp2_with fail
        go_roundw
        case rel => exact ⟨2, j + 1, m + 1, rfl, by go_num, HS.out.1, by omega, by omega, by omega, HK.out, trivial⟩
        case measure => simp [RowKit.intOf]; omega
      · have a48 : (decide (48 ≤ C)) = true := by simp; omega
        have b63 : (decide (C ≤ 63)) = true := by simp; omega
        have a32 : (decide (32 ≤ C)) = true := by simp; omega
        have b47 : (decide (C ≤ 47)) = false := by simp; omega
        have a64 : (decide (64 ≤ C)) = false := by simp; omega
        have b126 : (decide (C ≤ 126)) = true := by simp; omega
        rw [rrS_no (by decide) (.inr (.inr ⟨rfl, h⟩))] at hke
        subst hke
        have HC := Lib.hid hC
        clear hC hnx hjm h
        go_wp2_with fail
        refine bodyPost_ret (v := .agg #[.int .i64 (m : Int), .bool false, .bool false, .int .u8 0]) (by simp [results, Tryz.results29, go_sem]) rfl ⟨rfl, below_new w _⟩
      · have a48 : (decide (48 ≤ C)) = true := by simp; omega
        have b63 : (decide (C ≤ 63)) = false := by simp; omega
        have a32 : (decide (32 ≤ C)) = true := by simp; omega
        have b47 : (decide (C ≤ 47)) = false := by simp; omega
        have a64 : (decide (64 ≤ C)) = true := by simp; omega
        have b126 : (decide (C ≤ 126)) = true := by simp; omega
        rw [rrS_fin (by decide) h.1 h.2] at hke
        subst hke
        have HC := Lib.hid hC
        clear hC hnx hjm h
        go_wp2_with fail
        refine bodyPost_ret (v := .agg #[.int .i64 ((m : Int) + 1), .bool true, .bool false, .int .u8 C]) (by simp [results, Tryz.results29, go_sem]) rfl ⟨by rw [← HC.out]; rfl, below_new w _⟩
      · have a48 : (decide (48 ≤ C)) = true := by simp; omega
        have b63 : (decide (C ≤ 63)) = false := by simp; omega
        have a32 : (decide (32 ≤ C)) = true := by simp; omega
        have b47 : (decide (C ≤ 47)) = false := by simp; omega
        have a64 : (decide (64 ≤ C)) = true := by simp; omega
        have b126 : (decide (C ≤ 126)) = false := by simp; omega
        rw [rrS_no (by decide) (.inr (.inl h))] at hke
        subst hke
        have HC := Lib.hid hC
        clear hC hnx hjm h
        go_wp2_with fail
        refine bodyPost_ret (v := .agg #[.int .i64 (m : Int), .bool false, .bool false, .int .u8 0]) (by simp [results, Tryz.results29, go_sem]) rfl ⟨rfl, below_new w _⟩
end Go.Proofs.YtnedjafpjbfncaaGreatDoor

namespace Go.Proofs.YtnedjafpjbfncaaGreatDoor.G
open Go.RowKit Go.Shelf Go.Lib Go.Maps Go.Sort

theorem slice_mid (b o len cap l k : Nat) (hc : l < cap) (hh : l + k ≤ cap) (W : World) :
    (Instr.slice 22 (.slice (some ⟨b, o, none⟩) len cap) (some (.int .i64 (l : Int))) (some (.int .i64 ((l : Int) + (k : Int)))) none).run Tryz.prog W = .ok (.slice (some ⟨b, o + l, none⟩) k (cap - l)) W := by
  have := slice_win b o len cap l (l + k) (by omega) hh hc W
  rw [Nat.add_sub_cancel_left] at this
  exact this
theorem upGo_short (N kind : Nat) (e : List Nat) : ∀ l, l.length < e.length → upGo N kind e l = ⟨kind, N, [], [], false, false⟩
  | [], _ => rfl
  | c :: t, h => by
    rw [upGo]
    have hp : e.isPrefixOf (c :: t) = false := by
      rw [Bool.eq_false_iff]
      intro hh
      have := (List.isPrefixOf_iff_prefix.1 hh).length_le
      omega
    rw [hp]
    simp at h
    exact upGo_short N kind e t (by omega)
theorem prefix_take {e l : List Nat} (_h : e.length ≤ l.length) : e.isPrefixOf l = (l.take e.length == e) := by
  rw [Bool.eq_iff_iff, List.isPrefixOf_iff_prefix, beq_iff_eq, List.prefix_iff_eq_take]
  exact eq_comm
set_option maxHeartbeats 8000000 in
set_option maxRecDepth 100000 in
theorem upToC_any (b o cap : Nat) (xs : List Nat) (w : World) (hb : BY w w.heap.size xs (some ⟨b, o, none⟩) cap) (hl : xs.length ≤ 100000) :
    Calls Tryz.prog 37 #[.slice (some ⟨b, o, none⟩) xs.length cap, .int .i64 4, .int .i64 2, .string ⟨#[45, 45, 62]⟩] w (UpOk w (upGo xs.length 2 [45, 45, 62] (xs.drop 4))) := by
  have hcap := hb.l
  obtain ⟨T, hT⟩ : ∃ T, upGo xs.length 2 [45, 45, 62] (xs.drop 4) = T := ⟨_, rfl⟩
  rw [hT]
  have hok : ∀ (v : Value) w', v = .agg #[.int .i64 (T.kind : Int), .int .i64 (T.size : Int), .string ⟨#[]⟩, .slice none 0 0, .bool false, .bool T.closed] → Below w.heap.size w w' → UpOk w T (.returned v) w' := fun v w' h1 h2 => ⟨by rw [h1], h2⟩
  obtain ⟨Q, hQ⟩ : ∃ Q, UpOk w T = Q := ⟨_, rfl⟩
  rw [hQ] at hok ⊢
  obtain ⟨W1, hW1⟩ : ∃ W, w.alloc (.cells #[.int .i64 0, .int .i64 0, .string ⟨#[]⟩, .slice none 0 0, .bool false, .bool false] 56) = W := ⟨_, rfl⟩
  have b1 : Below w.heap.size w W1 := by rw [← hW1]; exact below_new _ _
  have x1 : Cells W1 w.heap.size 56 #[.int .i64 0, .int .i64 0, .string ⟨#[]⟩, .slice none 0 0, .bool false, .bool false] := by rw [← hW1]; exact cells_new _ _ _
  have hb1 := hb.on b1
  obtain ⟨N, hN⟩ : ∃ N, xs.length = N := ⟨_, rfl⟩
  rw [hN] at hcap hl hT ⊢
  have s0 := x1.cell 0
  have s1 := x1.cell 1
  have s2 := x1.cell 2
  have s3 := x1.cell 3
  have s4 := x1.cell 4
  have s5 := x1.cell 5
  have t0 := x1.froz 0
  have t1 := x1.froz 1
  have t2 := x1.froz 2
  have t3 := x1.froz 3
  have t4 := x1.froz 4
  have t5 := x1.froz 5
  have hg := x1.lt
  simp at s0 s1 s2 s3 s4 s5
  have HH := Lib.hid (And.intro hok (And.intro b1 (And.intro hb1 (And.intro hN hT))))
  clear hok b1 x1 hb1 hb hN hQ hT
  go_enter Tryz.func37, Tryz.ntmps37
  go_wp2_with fail
  clear hW1
  go_loopw [9] (fun i wr => ∃ j : Nat, i = .int .i64 (j : Int) ∧ j ≤ N + 4 ∧ upGo N 2 [45, 45, 62] (xs.drop j) = T ∧ wr = W1) (fun i _ => N + 10 - (RowKit.intOf i).toNat)
  case atStart => exact ⟨4, rfl, by omega, HH.out.2.2.2.2, rfl⟩
  case round =>
    obtain ⟨j, rfl, hj, hT, e⟩ := hrel
    obtain rfl := e.symm
    have e1 : IntKind.i64.wrap ((j : Int) + 3) = (j : Int) + 3 := IntWalk.i64_in _ (by omega)
    by_cases hlt : j + 3 ≤ N
    case neg =>
      have i1 : ¬ ((j : Int) + 3 ≤ (N : Int)) := by omega
      rw [upGo_short N 2 [45, 45, 62] (xs.drop j) (by rw [List.length_drop, HH.out.2.2.2.1]; simp; omega)] at hT
      have HT := Lib.hid hT
      clear hT
      go_wp2_with fail
      refine bodyPost_ret (v := .agg #[.int .i64 2, .int .i64 (N : Int), .string ⟨#[]⟩, .slice none 0 0, .bool false, .bool false]) ?_ rfl ?_
      · simp [results, Tryz.results37, go_sem, s0, s1, s2, s3, s4, s5]
      · exact HH.out.1 _ _ (by rw [← HT.out]; rfl) ((((((HH.out.2.1.setc (Nat.le_refl _) 0 _).setc (Nat.le_refl _) 1 _).setc (Nat.le_refl _) 2 _).setc (Nat.le_refl _) 3 _).setc (Nat.le_refl _) 4 _).setc (Nat.le_refl _) 5 _)
    case pos =>
      have i1 : (j : Int) + 3 ≤ (N : Int) := by omega
      have hsl : ∀ W, (Instr.slice 22 (.slice (some ⟨b, o, none⟩) N cap) (some (.int .i64 (j : Int))) (some (.int .i64 ((j : Int) + 3))) none).run Tryz.prog W = .ok (.slice (some ⟨b, o + j, none⟩) 3 (cap - j)) W := fun W => slice_mid b o N cap j 3 (by omega) (by omega) W
      have hwin : BY W1 W1.heap.size ((xs.drop j).take 3) (some ⟨b, o + j, none⟩) (cap - j) := (HH.out.2.2.1.dropL (by rw [HH.out.2.2.2.1]; omega)).take 3
      have htl : ((xs.drop j).take 3).length = 3 := by rw [List.length_take, List.length_drop, HH.out.2.2.2.1]; omega
      have hcv : (convert 22 9 (.slice (some ⟨b, o + j, none⟩) 3 (cap - j))).run Tryz.prog W1 = .ok (.string ⟨(u8s ((xs.drop j).take 3)).toArray⟩) W1 := by
        have h := conv_by hwin
        rw [htl] at h
        exact h
      have h256 : ∀ x ∈ (xs.drop j).take 3, x < 256 := hwin.i
      have hp := prefix_take (e := [45, 45, 62]) (l := xs.drop j) (by rw [List.length_drop, HH.out.2.2.2.1]; simp; omega)
      obtain ⟨x, hx⟩ := at_lt (l := xs) (k := j) (by rw [HH.out.2.2.2.1]; omega)
      have hdx := drop_at hx
      have hlen2 : (xs.drop (j + 1)).length = N - (j + 1) := by rw [List.length_drop, HH.out.2.2.2.1]
      have e2 : IntKind.i64.wrap ((j : Int) + 1) = (j : Int) + 1 := IntWalk.i64_in _ (by omega)
      by_cases htk : (xs.drop j).take 3 = [45, 45, 62]
      · have hT2 : (⟨2, j + 3, [], [], false, true⟩ : TG) = T := by
          rw [show ([45, 45, 62] : List Nat).length = 3 from rfl, htk] at hp
          rw [← hT]
          rw [hdx] at hp ⊢
          rw [upGo, hp, hlen2]
          simp
          omega
        rw [htk] at hcv
        have HT := Lib.hid hT2
        clear hT hT2 hwin htl h256 hp hx hdx hlen2 htk
        go_wp2_with fail
        refine bodyPost_ret (v := .agg #[.int .i64 2, .int .i64 ((j : Int) + 3), .string ⟨#[]⟩, .slice none 0 0, .bool false, .bool true]) ?_ rfl ?_
        · simp [results, Tryz.results37, go_sem, s0, s1, s2, s3, s4, s5]
        · exact HH.out.1 _ _ (by rw [← HT.out]; rfl) ((((((HH.out.2.1.setc (Nat.le_refl _) 0 _).setc (Nat.le_refl _) 1 _).setc (Nat.le_refl _) 2 _).setc (Nat.le_refl _) 3 _).setc (Nat.le_refl _) 4 _).setc (Nat.le_refl _) 5 _)
      · have hT2 : upGo N 2 [45, 45, 62] (xs.drop (j + 1)) = T := by
          rw [show ([45, 45, 62] : List Nat).length = 3 from rfl, beq_eq_false_iff_ne.2 htk] at hp
          rw [← hT]
          rw [hdx] at hp ⊢
          rw [upGo, hp]
          rfl
        have hne : ¬ u8s ((xs.drop j).take 3) = u8s [45, 45, 62] := fun e => htk (u8s_inj h256 (by decide) e)
        obtain ⟨SA, hSA⟩ : ∃ S : ByteArray, ⟨(u8s ((xs.drop j).take 3)).toArray⟩ = S := ⟨_, rfl⟩
        rw [hSA] at hcv
        have hl1 : (SA.toList == [45, 45, 62]) = false := by
          rw [beq_eq_false_iff_ne, ← hSA]
          intro e
          apply hne
          have : (⟨(u8s ((xs.drop j).take 3)).toArray⟩ : ByteArray).toList = u8s ((xs.drop j).take 3) := by first | exact ByteArray.toList_mk _ | simp
          rw [← this, e]
          rfl
        have HT := Lib.hid hT2
        clear hT hT2 hwin htl h256 hp hx hdx hlen2 htk hne hSA
        go_wp2_with fail
        go_roundw
        case rel => exact ⟨j + 1, by go_num, by omega, HT.out, trivial⟩
        case measure => simp [RowKit.intOf]; omega
set_option maxHeartbeats 8000000 in
set_option maxRecDepth 100000 in
theorem upToD_any (b o cap : Nat) (xs : List Nat) (w : World) (hb : BY w w.heap.size xs (some ⟨b, o, none⟩) cap) (hl : xs.length ≤ 100000) :
    Calls Tryz.prog 37 #[.slice (some ⟨b, o, none⟩) xs.length cap, .int .i64 2, .int .i64 3, .string ⟨#[62]⟩] w (UpOk w (upGo xs.length 3 [62] (xs.drop 2))) := by
  have hcap := hb.l
  obtain ⟨T, hT⟩ : ∃ T, upGo xs.length 3 [62] (xs.drop 2) = T := ⟨_, rfl⟩
  rw [hT]
  have hok : ∀ (v : Value) w', v = .agg #[.int .i64 (T.kind : Int), .int .i64 (T.size : Int), .string ⟨#[]⟩, .slice none 0 0, .bool false, .bool T.closed] → Below w.heap.size w w' → UpOk w T (.returned v) w' := fun v w' h1 h2 => ⟨by rw [h1], h2⟩
  obtain ⟨Q, hQ⟩ : ∃ Q, UpOk w T = Q := ⟨_, rfl⟩
  rw [hQ] at hok ⊢
  obtain ⟨W1, hW1⟩ : ∃ W, w.alloc (.cells #[.int .i64 0, .int .i64 0, .string ⟨#[]⟩, .slice none 0 0, .bool false, .bool false] 56) = W := ⟨_, rfl⟩
  have b1 : Below w.heap.size w W1 := by rw [← hW1]; exact below_new _ _
  have x1 : Cells W1 w.heap.size 56 #[.int .i64 0, .int .i64 0, .string ⟨#[]⟩, .slice none 0 0, .bool false, .bool false] := by rw [← hW1]; exact cells_new _ _ _
  have hb1 := hb.on b1
  obtain ⟨N, hN⟩ : ∃ N, xs.length = N := ⟨_, rfl⟩
  rw [hN] at hcap hl hT ⊢
  have s0 := x1.cell 0
  have s1 := x1.cell 1
  have s2 := x1.cell 2
  have s3 := x1.cell 3
  have s4 := x1.cell 4
  have s5 := x1.cell 5
  have t0 := x1.froz 0
  have t1 := x1.froz 1
  have t2 := x1.froz 2
  have t3 := x1.froz 3
  have t4 := x1.froz 4
  have t5 := x1.froz 5
  have hg := x1.lt
  simp at s0 s1 s2 s3 s4 s5
  have HH := Lib.hid (And.intro hok (And.intro b1 (And.intro hb1 (And.intro hN hT))))
  clear hok b1 x1 hb1 hb hN hQ hT
  go_enter Tryz.func37, Tryz.ntmps37
  go_wp2_with fail
  clear hW1
  go_loopw [9] (fun i wr => ∃ j : Nat, i = .int .i64 (j : Int) ∧ j ≤ N + 2 ∧ upGo N 3 [62] (xs.drop j) = T ∧ wr = W1) (fun i _ => N + 10 - (RowKit.intOf i).toNat)
  case atStart => exact ⟨2, rfl, by omega, HH.out.2.2.2.2, rfl⟩
  case round =>
    obtain ⟨j, rfl, hj, hT, e⟩ := hrel
    obtain rfl := e.symm
    have e1 : IntKind.i64.wrap ((j : Int) + 1) = (j : Int) + 1 := IntWalk.i64_in _ (by omega)
    by_cases hlt : j + 1 ≤ N
    case neg =>
      have i1 : ¬ ((j : Int) + 1 ≤ (N : Int)) := by omega
      rw [upGo_short N 3 [62] (xs.drop j) (by rw [List.length_drop, HH.out.2.2.2.1]; simp; omega)] at hT
      have HT := Lib.hid hT
      clear hT
      go_wp2_with fail
      refine bodyPost_ret (v := .agg #[.int .i64 3, .int .i64 (N : Int), .string ⟨#[]⟩, .slice none 0 0, .bool false, .bool false]) ?_ rfl ?_
      · simp [results, Tryz.results37, go_sem, s0, s1, s2, s3, s4, s5]
      · exact HH.out.1 _ _ (by rw [← HT.out]; rfl) ((((((HH.out.2.1.setc (Nat.le_refl _) 0 _).setc (Nat.le_refl _) 1 _).setc (Nat.le_refl _) 2 _).setc (Nat.le_refl _) 3 _).setc (Nat.le_refl _) 4 _).setc (Nat.le_refl _) 5 _)
    case pos =>
      have i1 : (j : Int) + 1 ≤ (N : Int) := by omega
      have hsl : ∀ W, (Instr.slice 22 (.slice (some ⟨b, o, none⟩) N cap) (some (.int .i64 (j : Int))) (some (.int .i64 ((j : Int) + 1))) none).run Tryz.prog W = .ok (.slice (some ⟨b, o + j, none⟩) 1 (cap - j)) W := fun W => slice_mid b o N cap j 1 (by omega) (by omega) W
      have hwin : BY W1 W1.heap.size ((xs.drop j).take 1) (some ⟨b, o + j, none⟩) (cap - j) := (HH.out.2.2.1.dropL (by rw [HH.out.2.2.2.1]; omega)).take 1
      have htl : ((xs.drop j).take 1).length = 1 := by rw [List.length_take, List.length_drop, HH.out.2.2.2.1]; omega
      have hcv : (convert 22 9 (.slice (some ⟨b, o + j, none⟩) 1 (cap - j))).run Tryz.prog W1 = .ok (.string ⟨(u8s ((xs.drop j).take 1)).toArray⟩) W1 := by
        have h := conv_by hwin
        rw [htl] at h
        exact h
      have h256 : ∀ x ∈ (xs.drop j).take 1, x < 256 := hwin.i
      have hp := prefix_take (e := [62]) (l := xs.drop j) (by rw [List.length_drop, HH.out.2.2.2.1]; simp; omega)
      obtain ⟨x, hx⟩ := at_lt (l := xs) (k := j) (by rw [HH.out.2.2.2.1]; omega)
      have hdx := drop_at hx
      have hlen2 : (xs.drop (j + 1)).length = N - (j + 1) := by rw [List.length_drop, HH.out.2.2.2.1]
      have e2 : IntKind.i64.wrap ((j : Int) + 1) = (j : Int) + 1 := IntWalk.i64_in _ (by omega)
      by_cases htk : (xs.drop j).take 1 = [62]
      · have hT2 : (⟨3, j + 1, [], [], false, true⟩ : TG) = T := by
          rw [show ([62] : List Nat).length = 1 from rfl, htk] at hp
          rw [← hT]
          rw [hdx] at hp ⊢
          rw [upGo, hp, hlen2]
          simp
          omega
        rw [htk] at hcv
        have HT := Lib.hid hT2
        clear hT hT2 hwin htl h256 hp hx hdx hlen2 htk
        go_wp2_with fail
        refine bodyPost_ret (v := .agg #[.int .i64 3, .int .i64 ((j : Int) + 1), .string ⟨#[]⟩, .slice none 0 0, .bool false, .bool true]) ?_ rfl ?_
        · simp [results, Tryz.results37, go_sem, s0, s1, s2, s3, s4, s5]
        · exact HH.out.1 _ _ (by rw [← HT.out]; rfl) ((((((HH.out.2.1.setc (Nat.le_refl _) 0 _).setc (Nat.le_refl _) 1 _).setc (Nat.le_refl _) 2 _).setc (Nat.le_refl _) 3 _).setc (Nat.le_refl _) 4 _).setc (Nat.le_refl _) 5 _)
      · have hT2 : upGo N 3 [62] (xs.drop (j + 1)) = T := by
          rw [show ([62] : List Nat).length = 1 from rfl, beq_eq_false_iff_ne.2 htk] at hp
          rw [← hT]
          rw [hdx] at hp ⊢
          rw [upGo, hp]
          rfl
        have hne : ¬ u8s ((xs.drop j).take 1) = u8s [62] := fun e => htk (u8s_inj h256 (by decide) e)
        obtain ⟨SA, hSA⟩ : ∃ S : ByteArray, ⟨(u8s ((xs.drop j).take 1)).toArray⟩ = S := ⟨_, rfl⟩
        rw [hSA] at hcv
        have hl1 : (SA.toList == [62]) = false := by
          rw [beq_eq_false_iff_ne, ← hSA]
          intro e
          apply hne
          have : (⟨(u8s ((xs.drop j).take 1)).toArray⟩ : ByteArray).toList = u8s ((xs.drop j).take 1) := by first | exact ByteArray.toList_mk _ | simp
          rw [← this, e]
          rfl
        have HT := Lib.hid hT2
        clear hT hT2 hwin htl h256 hp hx hdx hlen2 htk hne hSA
        go_wp2_with fail
        go_roundw
        case rel => exact ⟨j + 1, by go_num, by omega, HT.out, trivial⟩
        case measure => simp [RowKit.intOf]; omega
end Go.Proofs.YtnedjafpjbfncaaGreatDoor.G

