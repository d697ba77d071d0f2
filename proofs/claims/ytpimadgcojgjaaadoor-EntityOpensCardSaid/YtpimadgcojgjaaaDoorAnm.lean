/-
  Escapes of terminals as lists of bytes: what is read, the code's way and the definition's; numbers; what is stripped. No program.
-/
import Derived.Test.YtpimadgcojgjaaaDoorBase
import Derived.Lib.Split
import Derived.Lib.IndexMore
namespace Go.Proofs.YtpimadgcojgjaaaDoor
open Go.RowKit Go.Shelf Go.Lib Go.Maps

/-- An escape that was read. -/
structure Esc where
  size : Nat
  whole : Bool
  op : Bool
  last : Nat
def escNone : Esc := ⟨0, false, false, 0⟩
def inR (lo hi c : Nat) : Bool := decide (lo ≤ c) && decide (c ≤ hi)
/-- How many bytes from lo to hi stand ahead. -/
def skipN (lo hi : Nat) : List Nat → Nat
  | [] => 0
  | c :: r => if inR lo hi c = true then skipN lo hi r + 1 else 0
theorem skipN_le (lo hi : Nat) : ∀ l, skipN lo hi l ≤ l.length
  | [] => Nat.le_refl _
  | c :: r => by
    unfold skipN
    split
    · simpa using skipN_le lo hi r
    · exact Nat.zero_le _
/-- A control sequence of which n bytes were taken. -/
def ctlR (n : Nat) (r : List Nat) : Esc :=
  match r with
  | [] => ⟨n, false, true, 0⟩
  | c :: _ => if inR 64 126 c = true then ⟨n + 1, true, false, c⟩ else ⟨n, false, false, 0⟩
/-- A control sequence, what stands behind its first two bytes. -/
def readC (s : List Nat) : Esc := ctlR (2 + skipN 48 63 s + skipN 32 47 (s.drop (skipN 48 63 s))) (s.drop (skipN 48 63 s + skipN 32 47 (s.drop (skipN 48 63 s))))
/-- The code's way. -/
def readT (l : List Nat) : Esc :=
  match l with
  | [] => escNone
  | c :: r => if c = 27 then (match r with
    | [] => ⟨1, false, true, 0⟩
    | d :: s => if d = 91 then readC s else if inR 64 95 d = true then ⟨2, true, false, d⟩ else ⟨1, false, false, 0⟩) else escNone
/-- The definition's way: state by state. -/
def refR : Nat → Nat → List Nat → Esc
  | _, n, [] => ⟨n, false, true, 0⟩
  | st, n, c :: r => if st = 0 then (if c = 91 then refR 1 (n + 1) r else if inR 64 95 c = true then ⟨2, true, false, c⟩ else ⟨1, false, false, 0⟩)
      else if st = 1 ∧ inR 48 63 c = true then refR 1 (n + 1) r
      else if inR 32 47 c = true then refR 2 (n + 1) r
      else if inR 64 126 c = true then ⟨n + 1, true, false, c⟩ else ⟨n, false, false, 0⟩
theorem refR2 : ∀ (r : List Nat) (n : Nat), refR 2 n r = ctlR (n + skipN 32 47 r) (r.drop (skipN 32 47 r))
  | [], n => rfl
  | c :: r, n => by
    rw [refR, skipN]
    by_cases h : inR 32 47 c = true
    · simp only [h, if_true]
      rw [if_neg (by decide), if_neg (by simp), refR2 r (n + 1)]
      rw [List.drop_succ_cons, Nat.add_assoc, Nat.add_comm 1]
    · rw [if_neg (by decide), if_neg (by simp), if_neg h, if_neg h]
      simp only [Nat.add_zero, List.drop_zero, ctlR]
theorem refR1 : ∀ (r : List Nat) (n : Nat), refR 1 n r = ctlR (n + skipN 48 63 r + skipN 32 47 (r.drop (skipN 48 63 r))) (r.drop (skipN 48 63 r + skipN 32 47 (r.drop (skipN 48 63 r))))
  | [], n => rfl
  | c :: r, n => by
    by_cases h : inR 48 63 c = true
    · have e : skipN 48 63 (c :: r) = skipN 48 63 r + 1 := by rw [skipN, if_pos h]
      rw [e, refR, if_neg (by decide), if_pos ⟨rfl, h⟩, refR1 r (n + 1), List.drop_succ_cons]
      have : skipN 48 63 r + 1 + skipN 32 47 (r.drop (skipN 48 63 r)) = (skipN 48 63 r + skipN 32 47 (r.drop (skipN 48 63 r))) + 1 := by omega
      rw [this, List.drop_succ_cons]
      congr 1
      omega
    · have e : skipN 48 63 (c :: r) = 0 := by rw [skipN, if_neg h]
      have := refR2 (c :: r) n
      rw [refR, if_neg (by decide), if_neg (by simp)] at this
      rw [e, refR, if_neg (by decide), if_neg (by simp [h]), this]
      simp
theorem ref_read (r : List Nat) : refR 0 1 r = readT (27 :: r) := by
  simp only [readT, if_true]
  cases r with
  | nil => rfl
  | cons d s =>
    rw [refR, if_pos rfl]
    by_cases h : d = 91
    · rw [if_pos h]
      dsimp only
      rw [if_pos h, refR1 s 2]
      rfl
    · rw [if_neg h]
      dsimp only
      rw [if_neg h]
theorem readT_not {c : Nat} (r : List Nat) (h : c ≠ 27) : readT (c :: r) = escNone := by simp only [readT, if_neg h]
theorem refR_ge : ∀ (r : List Nat) (st n : Nat), st ≠ 0 → n ≤ (refR st n r).size ∧ (refR st n r).size ≤ n + r.length ∧ ((refR st n r).whole = true → 1 ≤ r.length ∧ n + 1 ≤ (refR st n r).size)
  | [], st, n, h => by simp [refR]
  | c :: r, st, n, h => by
    rw [refR, if_neg h]
    split
    · have := refR_ge r 1 (n + 1) (by decide)
      simp only [List.length_cons]
      omega
    · split
      · have := refR_ge r 2 (n + 1) (by decide)
        simp only [List.length_cons]
        omega
      · split
        · simp
        · simp
theorem readT_size (l : List Nat) : (readT l).size ≤ l.length ∧ ((readT l).size = 0 ↔ l.head? ≠ some 27) := by
  cases l with
  | nil => simp [readT, escNone]
  | cons c r =>
    by_cases h : c = 27
    · subst h
      rw [← ref_read]
      cases r with
      | nil => simp [refR]
      | cons d s =>
        rw [refR, if_pos rfl]
        split
        · have := refR_ge s 1 (1 + 1) (by decide)
          simp only [List.length_cons, List.head?_cons, ne_eq, not_true, iff_false]
          omega
        · split <;> simp
    · rw [readT_not r h]
      simp [escNone, h]
theorem readT_whole {l : List Nat} (h : (readT l).whole = true) : ∃ d s, l = 27 :: d :: s ∧ 2 ≤ (readT l).size ∧ (d = 91 → 3 ≤ (readT l).size) := by
  cases l with
  | nil => simp [readT, escNone] at h
  | cons c r =>
    by_cases hc : c = 27
    · subst hc
      cases r with
      | nil => simp [readT] at h
      | cons d s =>
        refine ⟨d, s, rfl, ?_⟩
        rw [← ref_read] at h ⊢
        rw [refR, if_pos rfl] at h ⊢
        by_cases hd : d = 91
        · rw [if_pos hd] at h ⊢
          have := (refR_ge s 1 (1 + 1) (by decide)).2.2 h
          omega
        · rw [if_neg hd] at h ⊢
          by_cases hi : inR 64 95 d = true
          · rw [if_pos hi] at h ⊢
            simp [hd]
          · rw [if_neg hi] at h
            simp at h
    · rw [readT_not r hc] at h
      simp [escNone] at h
/-- More behind what is read. -/
theorem refR_grows : ∀ (r more : List Nat) (st n : Nat), (st = 0 → n = 1) → ((refR st n r).op = false → refR st n (r ++ more) = refR st n r) ∧ ((refR st n r).op = true → (refR st n r).size = n + r.length ∧ n + r.length ≤ (refR st n (r ++ more)).size)
  | [], more, st, n, h => by
    refine ⟨fun h => by simp [refR] at h, fun _ => ⟨rfl, ?_⟩⟩
    show n + 0 ≤ (refR st n more).size
    by_cases h0 : st = 0
    · obtain rfl := h h0
      subst h0
      cases more with
      | nil => simp [refR]
      | cons c m =>
        rw [refR, if_pos rfl]
        split
        · have := refR_ge m 1 (1 + 1) (by decide); omega
        · split <;> simp
    · exact (refR_ge more st n h0).1
  | c :: r, more, st, n, h => by
    rw [List.cons_append, refR, refR]
    split
    · rename_i h0
      obtain rfl := h h0
      split
      · have := refR_grows r more 1 (1 + 1) (by decide)
        simp only [List.length_cons]
        refine ⟨this.1, fun h => ?_⟩
        have := this.2 h
        omega
      · split <;> simp
    · split
      · have := refR_grows r more 1 (n + 1) (by simp)
        simp only [List.length_cons]
        refine ⟨this.1, fun h => ?_⟩
        have := this.2 h
        omega
      · split
        · have := refR_grows r more 2 (n + 1) (by simp)
          simp only [List.length_cons]
          refine ⟨this.1, fun h => ?_⟩
          have := this.2 h
          omega
        · split <;> simp
theorem readT_grows (r more : List Nat) : ((readT (27 :: r)).op = false → readT (27 :: r ++ more) = readT (27 :: r)) ∧ ((readT (27 :: r)).op = true → (readT (27 :: r)).size = r.length + 1 ∧ r.length + 1 ≤ (readT (27 :: r ++ more)).size) := by
  have := refR_grows r more 0 1 (fun _ => rfl)
  rw [List.cons_append, ← ref_read, ← ref_read]
  refine ⟨this.1, fun h => ?_⟩
  have := this.2 h
  omega
/-- Parameters, then what ends them. -/
theorem refR_params : ∀ (P : List Nat) (n c : Nat) (m : List Nat), (∀ x ∈ P, inR 48 63 x = true) → inR 64 126 c = true → refR 1 n (P ++ c :: m) = ⟨n + P.length + 1, true, false, c⟩
  | [], n, c, m, _, hc => by
    have h1 : inR 48 63 c = false := by simp [inR] at hc ⊢; omega
    have h2 : inR 32 47 c = false := by simp [inR] at hc ⊢; omega
    rw [List.nil_append, refR, if_neg (by decide), if_neg (by simp [h1]), if_neg (by simp [h2]), if_pos hc]
    simp
  | x :: P, n, c, m, hP, hc => by
    rw [List.cons_append, refR, if_neg (by decide), if_pos ⟨rfl, hP x (by simp)⟩, refR_params P (n + 1) c m (fun y hy => hP y (by simp [hy])) hc]
    simp only [List.length_cons]
    congr 1
    omega
theorem readT_seq (P : List Nat) (c : Nat) (m : List Nat) (hP : ∀ x ∈ P, inR 48 63 x = true) (hc : inR 64 126 c = true) : readT (27 :: 91 :: (P ++ c :: m)) = ⟨P.length + 3, true, false, c⟩ := by
  rw [← ref_read, refR, if_pos rfl, if_pos rfl, refR_params P 2 c m hP hc]
  congr 1
  omega

/-! ## What is stripped -/
def stripK : Nat → List Nat → List Nat
  | _, [] => []
  | k, c :: r => if k = 0 then (if (readT (c :: r)).size = 0 then c :: stripK 0 r else stripK ((readT (c :: r)).size - 1) r) else stripK (k - 1) r
theorem stripK_drop : ∀ (k : Nat) (l : List Nat), stripK k l = stripK 0 (l.drop k)
  | 0, l => by simp
  | k + 1, [] => rfl
  | k + 1, c :: r => by rw [stripK, if_neg (by omega), Nat.add_sub_cancel, stripK_drop k r, List.drop_succ_cons]
theorem strip_keep {c : Nat} {r : List Nat} (h : (readT (c :: r)).size = 0) : stripK 0 (c :: r) = c :: stripK 0 r := by rw [stripK, if_pos rfl, if_pos h]
theorem strip_skip {l : List Nat} (h : (readT l).size ≠ 0) : stripK 0 l = stripK 0 (l.drop (readT l).size) := by
  cases l with
  | nil => simp
  | cons c r =>
    rw [stripK, if_pos rfl, if_neg h, stripK_drop]
    obtain ⟨k, hk⟩ := Nat.exists_eq_succ_of_ne_zero h
    rw [hk, List.drop_succ_cons]
    rfl
theorem strip_none : ∀ (l : List Nat) (k : Nat), ∀ x ∈ stripK k l, x ≠ 27 ∧ x ∈ l
  | [], k, x, h => by simp [stripK] at h
  | c :: r, k, x, h => by
    have up : x ≠ 27 ∧ x ∈ r → x ≠ 27 ∧ x ∈ c :: r := fun h => ⟨h.1, by simp [h.2]⟩
    rw [stripK] at h
    split at h
    · split at h
      · rename_i hs
        have := (readT_size (c :: r)).2.1 hs
        rcases List.mem_cons.1 h with rfl | h
        · exact ⟨fun e => this (by simp [e]), by simp⟩
        · exact up (strip_none r 0 x h)
      · exact up (strip_none r _ x h)
    · exact up (strip_none r _ x h)
theorem strip_plain (p r : List Nat) (h : ∀ x ∈ p, x ≠ 27) : stripK 0 (p ++ r) = p ++ stripK 0 r := by
  induction p with
  | nil => rfl
  | cons c p ih =>
    rw [List.cons_append, strip_keep, ih (fun x hx => h x (by simp [hx]))]
    · rfl
    · rw [readT_not _ (h c (by simp))]; rfl
theorem strip_same (l : List Nat) (h : ∀ x ∈ l, x ≠ 27) : stripK 0 l = l := by
  have := strip_plain l [] h
  simpa [stripK] using this
theorem strip_seq (P : List Nat) (c : Nat) (m : List Nat) (hP : ∀ x ∈ P, inR 48 63 x = true) (hc : inR 64 126 c = true) : stripK 0 (27 :: 91 :: (P ++ c :: m)) = stripK 0 m := by
  have e := readT_seq P c m hP hc
  rw [strip_skip (by rw [e]; simp), e]
  show stripK 0 ((27 :: 91 :: (P ++ c :: m)).drop (P.length + 3)) = _
  rw [show P.length + 3 = (P.length + 1) + 1 + 1 from rfl, List.drop_succ_cons, List.drop_succ_cons]
  simp

/-! ## Numbers -/
def dig (c : Nat) : Bool := inR 48 57 c
def numV (n : Nat) : List Nat → Nat
  | [] => n
  | c :: r => numV (10 * n + (c - 48)) r
/-- The number of a part. -/
def numT (l : List Nat) : Option Nat := if l.length ≤ 5 ∧ l.all dig = true then some (numV 0 l) else none
/-- The definition's: behind out, in a number of which d digits were taken. -/
def refN (out : List Nat) (cur d : Nat) : List Nat → Option (List Nat)
  | [] => some (out ++ [cur])
  | c :: r => if c = 59 then refN (out ++ [cur]) 0 0 r else if dig c = true ∧ d < 5 then refN out (10 * cur + (c - 48)) (d + 1) r else none
/-- The code's: part by part. -/
def numsP : List (List Nat) → Option (List Nat)
  | [] => some []
  | p :: r => match numT p with
    | none => none
    | some n => match numsP r with
      | none => none
      | some l => some (n :: l)
theorem refN_part (p r : List Nat) : ∀ (out : List Nat) (cur d : Nat), (∀ x ∈ p, x ≠ 59) → d ≤ 5 → refN out cur d (p ++ r) = if d + p.length ≤ 5 ∧ p.all dig = true then refN out (numV cur p) (d + p.length) r else none := by
  induction p with
  | nil =>
    intro out cur d _ hd
    rw [List.nil_append, if_pos ⟨hd, rfl⟩]
    rfl
  | cons c p ih =>
    intro out cur d h hd
    have ih := ih out (10 * cur + (c - 48)) (d + 1) (fun x hx => h x (by simp [hx]))
    rw [List.cons_append, refN, if_neg (h c (by simp))]
    have e2 : (c :: p).all dig = (dig c && p.all dig) := rfl
    have e1 : (c :: p).length = p.length + 1 := rfl
    have e3 : numV cur (c :: p) = numV (10 * cur + (c - 48)) p := rfl
    rw [e1, e2, e3]
    by_cases hc : dig c = true
    · rw [hc, Bool.true_and]
      by_cases h5 : d < 5
      · rw [if_pos ⟨rfl, h5⟩, ih (by omega), show d + 1 + p.length = d + (p.length + 1) by omega]
      · rw [if_neg (fun h => h5 h.2), if_neg (fun h => h5 (by omega))]
    · rw [Bool.not_eq_true] at hc
      rw [hc, if_neg (by simp), if_neg (by simp)]
theorem refN_out : ∀ (r : List Nat) (out : List Nat) (cur d : Nat), refN out cur d r = (refN [] cur d r).map (out ++ ·)
  | [], out, cur, d => by simp [refN]
  | c :: r, out, cur, d => by
    rw [refN, refN]
    split
    · rw [refN_out r (out ++ [cur]), refN_out r ([] ++ [cur])]
      cases refN [] 0 0 r <;> simp
    · split
      · exact refN_out r out _ _
      · rfl

/-! ## Pieces -/
def u8s (l : List Nat) : List UInt8 := l.map UInt8.ofNat
def nats (l : List UInt8) : List Nat := l.map UInt8.toNat
theorem u8s_len (l : List Nat) : (u8s l).length = l.length := by simp [u8s]
theorem nats_u8s (l : List Nat) (h : ∀ x ∈ l, x < 256) : nats (u8s l) = l := by
  unfold nats u8s
  rw [List.map_map]
  conv => rhs; rw [← List.map_id l]
  exact List.map_congr_left fun x hx => by simp [h x hx]
theorem ofNat_eq (c : Nat) (h : c < 256) : (59 : UInt8) = UInt8.ofNat c ↔ c = 59 := by
  constructor
  · intro e
    have := congrArg UInt8.toNat e
    simp [Nat.mod_eq_of_lt h] at this
    omega
  · rintro rfl; rfl
theorem index_no : ∀ (l : List Nat), (∀ x ∈ l, x < 256) → (∀ x ∈ l, x ≠ 59) → index (u8s l) [59] = -1
  | [], _, _ => rfl
  | c :: r, h, hn => by
    have ih := index_no r (fun x hx => h x (by simp [hx])) (fun x hx => hn x (by simp [hx]))
    have e : ([59] : List UInt8).isPrefixOf (u8s (c :: r)) = false := by
      have := hn c (by simp)
      have h2 : ¬ (59 : UInt8) = UInt8.ofNat c := fun e => this ((ofNat_eq c (h c (by simp))).1 e)
      show ((59 : UInt8) == UInt8.ofNat c && _) = false
      rw [beq_eq_false_iff_ne.2 h2]
      rfl
    unfold u8s at *
    rw [List.map_cons] at *
    unfold index
    rw [e, ih]
    rfl
theorem index_hit : ∀ (p r : List Nat), (∀ x ∈ p, x < 256) → (∀ x ∈ p, x ≠ 59) → index (u8s (p ++ 59 :: r)) [59] = (p.length : Int)
  | [], r, _, _ => by
    unfold u8s
    rw [List.nil_append, List.map_cons]
    unfold index
    rw [if_pos (by simp)]
    rfl
  | c :: p, r, h, hn => by
    have ih := index_hit p r (fun x hx => h x (by simp [hx])) (fun x hx => hn x (by simp [hx]))
    have e : ([59] : List UInt8).isPrefixOf (u8s (c :: p ++ 59 :: r)) = false := by
      have := hn c (by simp)
      have h2 : ¬ (59 : UInt8) = UInt8.ofNat c := fun e => this ((ofNat_eq c (h c (by simp))).1 e)
      show ((59 : UInt8) == UInt8.ofNat c && _) = false
      rw [beq_eq_false_iff_ne.2 h2]
      rfl
    unfold u8s at *
    rw [List.cons_append, List.map_cons] at *
    unfold index
    rw [e, ih]
    have : ((p.length : Int) == -1) = false := by rw [beq_eq_false_iff_ne]; omega
    simp [this]
theorem part_or : ∀ (l : List Nat), (∀ x ∈ l, x ≠ 59) ∨ ∃ p r, l = p ++ 59 :: r ∧ ∀ x ∈ p, x ≠ 59
  | [] => .inl (by simp)
  | c :: l => by
    by_cases h : c = 59
    · exact .inr ⟨[], l, by simp [h], by simp⟩
    · rcases part_or l with h1 | ⟨p, r, rfl, h1⟩
      · exact .inl fun x hx => by
          rcases List.mem_cons.1 hx with rfl | hx
          · exact h
          · exact h1 x hx
      · exact .inr ⟨c :: p, r, rfl, fun x hx => by
          rcases List.mem_cons.1 hx with rfl | hx
          · exact h
          · exact h1 x hx⟩
theorem refN_one (p : List Nat) (h : ∀ x ∈ p, x ≠ 59) : refN [] 0 0 p = (numT p).map (fun n => [n]) := by
  have := refN_part p [] [] 0 0 h (by omega)
  rw [List.append_nil] at this
  rw [this]
  unfold numT
  rw [Nat.zero_add]
  split <;> simp [refN]
theorem refN_two (p r : List Nat) (h : ∀ x ∈ p, x ≠ 59) : refN [] 0 0 (p ++ 59 :: r) = match numT p with | none => none | some n => (refN [] 0 0 r).map (n :: ·) := by
  rw [refN_part p _ [] 0 0 h (by omega)]
  unfold numT
  rw [Nat.zero_add]
  split
  · rw [refN, if_pos rfl, refN_out]
    rfl
  · rfl
theorem nums_cut : ∀ (f : Nat) (l : List Nat), l.length < f → (∀ x ∈ l, x < 256) → numsP ((splitK [59] 0 (countFrom [59] f (u8s l)) (u8s l)).map nats) = refN [] 0 0 l
  | 0, l, hf, _ => by omega
  | f + 1, l, hf, hb => by
    rcases part_or l with h | ⟨p, r, rfl, h⟩
    · have e := index_no l hb h
      rw [countFrom, e, if_pos (show ((-1 : Int) == -1) = true by decide), refN_one l h]
      simp only [splitK, List.map_cons, List.map_nil, nats_u8s l hb, numsP]
      cases numT l <;> rfl
    · have hp : ∀ x ∈ p, x < 256 := fun x hx => hb x (by simp [hx])
      have hr : ∀ x ∈ r, x < 256 := fun x hx => hb x (by simp [hx])
      have e := index_hit p r hp h
      have ih := nums_cut f r (by simp at hf; omega) hr
      have hd : (u8s (p ++ 59 :: r)).drop (p.length + 1) = u8s r := by
        rw [u8s, ← List.map_drop, show p ++ 59 :: r = (p ++ [59]) ++ r by simp, List.drop_left' (by simp)]
        rfl
      have ht : (u8s (p ++ 59 :: r)).take p.length = u8s p := by
        rw [u8s, ← List.map_take, List.take_left' rfl]
        rfl
      have hne : ((p.length : Int) == -1) = false := by rw [beq_eq_false_iff_ne]; omega
      rw [countFrom, e, if_neg (by simp [hne]), Nat.add_comm 1, splitK, e, if_neg (by simp [hne])]
      simp only [Int.toNat_natCast, Nat.add_zero, List.length_cons, List.length_nil, Nat.zero_add]
      rw [hd, ht, List.map_cons, nats_u8s p hp, refN_two p r h, ← ih]
      simp only [numsP]
      cases numT p with
      | none => rfl
      | some n => cases numsP ((splitK [59] 0 (countFrom [59] f (u8s r)) (u8s r)).map nats) <;> rfl
/-- The numbers of the control sequence that a list begins with. -/
def midL (l : List Nat) : List Nat := (l.drop 2).take ((readT l).size - 3)
def numbersT (l : List Nat) : Option (List Nat) := if (readT l).whole = true ∧ l[1]? = some 91 then refN [] 0 0 (midL l) else none
end Go.Proofs.YtpimadgcojgjaaaDoor
