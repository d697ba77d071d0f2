/-
  Marks, without a program: how a tag is read run by run (the code's way) and byte by byte (the document's way), and that both are one.
-/
namespace Go.Proofs.Ytplnkmojkdbbnaa
def blkB (c : Nat) : Bool := c == 9 || c == 10 || c == 12 || c == 13 || c == 32
def ltrB (c : Nat) : Bool := (decide (65 ≤ c) && decide (c ≤ 90)) || (decide (97 ≤ c) && decide (c ≤ 122))
def lowN (c : Nat) : Nat := if 65 ≤ c ∧ c ≤ 90 then c + 32 else c
def lowL (l : List Nat) : List Nat := l.map lowN
abbrev AT := List Nat × List Nat
structure TG where
  kind : Nat
  size : Nat
  name : List Nat
  attrs : List AT
  single : Bool
  closed : Bool
/-- What is passed up to the first byte that ends a run, and what is left. -/
def runW (e : Nat → Bool) (l : List Nat) : List Nat := l.takeWhile (fun c => !e c)
def restW (e : Nat → Bool) (l : List Nat) : List Nat := l.dropWhile (fun c => !e c)
def eName (c : Nat) : Bool := blkB c || c == 47 || c == 62
def eAttr (c : Nat) : Bool := blkB c || c == 47 || c == 62 || c == 61
def eSep (c : Nat) : Bool := !(blkB c || c == 47)
def eBlk (c : Nat) : Bool := !blkB c
def eVal (c : Nat) : Bool := blkB c || c == 62
def eQ (q c : Nat) : Bool := c == q
theorem runW_nil (e : Nat → Bool) : runW e [] = [] := rfl
theorem restW_nil (e : Nat → Bool) : restW e [] = [] := rfl
theorem runW_hit {e : Nat → Bool} {c : Nat} (l : List Nat) (h : e c = true) : runW e (c :: l) = [] := by simp [runW, h]
theorem restW_hit {e : Nat → Bool} {c : Nat} (l : List Nat) (h : e c = true) : restW e (c :: l) = c :: l := by simp [restW, h]
theorem runW_miss {e : Nat → Bool} {c : Nat} (l : List Nat) (h : e c = false) : runW e (c :: l) = c :: runW e l := by simp [runW, h]
theorem restW_miss {e : Nat → Bool} {c : Nat} (l : List Nat) (h : e c = false) : restW e (c :: l) = restW e l := by simp [restW, h]
theorem run_rest (e : Nat → Bool) (l : List Nat) : runW e l ++ restW e l = l := List.takeWhile_append_dropWhile
theorem restW_len (e : Nat → Bool) (l : List Nat) : (restW e l).length = l.length - (runW e l).length := by
  have := congrArg List.length (run_rest e l)
  simp at this
  omega
theorem runW_le (e : Nat → Bool) (l : List Nat) : (runW e l).length ≤ l.length := by
  have := congrArg List.length (run_rest e l)
  simp at this
  omega
theorem restW_le (e : Nat → Bool) (l : List Nat) : (restW e l).length ≤ l.length := by
  have := congrArg List.length (run_rest e l)
  simp at this
  omega
theorem restW_head {e : Nat → Bool} : ∀ {l : List Nat} {c : Nat} {t : List Nat}, restW e l = c :: t → e c = true
  | [], c, t, h => by cases h
  | x :: l, c, t, h => by
    cases hx : e x with
    | true =>
      rw [restW_hit l hx] at h
      injection h with h1 _
      rw [← h1]; exact hx
    | false =>
      rw [restW_miss l hx] at h
      exact restW_head h
theorem restW_eq_drop (e : Nat → Bool) (l : List Nat) : restW e l = l.drop (runW e l).length := by
  have h : l.drop (runW e l).length = (runW e l ++ restW e l).drop (runW e l).length := by rw [run_rest]
  rw [h, List.drop_left]
theorem runW_eq_take (e : Nat → Bool) (l : List Nat) : runW e l = l.take (runW e l).length := by
  have h : l.take (runW e l).length = (runW e l ++ restW e l).take (runW e l).length := by rw [run_rest]
  rw [h, List.take_left]

/-- The code's way. -/
def valueR (l : List Nat) : List Nat × List Nat := match l with
  | [] => ([], [])
  | c :: t => if c = 34 ∨ c = 39 then (runW (eQ c) t, (restW (eQ c) t).drop 1) else (runW eVal (c :: t), restW eVal (c :: t))
def attrN (l : List Nat) : List Nat := lowL (l.take 1 ++ runW eAttr (l.drop 1))
def attrP (l : List Nat) : List Nat := restW eBlk (restW eAttr (l.drop 1))
def attrR (l : List Nat) : AT × List Nat := match attrP l with
  | [] => ((attrN l, []), [])
  | c :: t => if c = 61 then ((attrN l, (valueR (restW eBlk t)).1), (valueR (restW eBlk t)).2) else ((attrN l, []), c :: t)
theorem valueR_le (l : List Nat) : (valueR l).2.length ≤ l.length := by
  unfold valueR
  split
  · simp
  · rename_i c t
    split
    · have := restW_le (eQ c) t
      simp
      omega
    · exact restW_le _ _
theorem attrR_lt {l : List Nat} (h : l ≠ []) : (attrR l).2.length < l.length := by
  have h0 : (l.drop 1).length < l.length := by
    cases l with
    | nil => exact absurd rfl h
    | cons c t => simp
  have h1 : (attrP l).length ≤ (l.drop 1).length := Nat.le_trans (restW_le _ _) (restW_le _ _)
  unfold attrR
  split
  · simp; cases l with
    | nil => exact absurd rfl h
    | cons c t => simp
  · rename_i c t e
    rw [e] at h1
    simp at h1
    split
    · have h2 := valueR_le (restW eBlk t)
      have h3 := restW_le eBlk t
      simp at h0 ⊢
      omega
    · simp at h0 ⊢
      omega
/-- A tag's reading goes on behind its name: N bytes in all. -/
def tagR (N kind : Nat) (name : List Nat) : Nat → List AT → List Nat → TG
  | f, as, l => match restW eSep l with
    | [] => ⟨kind, N, name, as, false, false⟩
    | c :: t => if c = 62 then ⟨kind, N - t.length, name, as, (runW eSep l).getLast? == some 47, true⟩
      else match f with
        | 0 => ⟨kind, N, name, as, false, false⟩
        | f + 1 => tagR N kind name f (as ++ [(attrR (c :: t)).1]) (attrR (c :: t)).2

/-- The document's way: a state for each byte. -/
structure RS where
  st : Nat
  slash : Bool
  tn : List Nat
  nm : List Nat
  vl : List Nat
  q : Nat
  as : List AT
def refStep (s : RS) (c : Nat) : RS × Bool := match s.st with
  | 0 => if blkB c || c == 47 || c == 62 then ({ s with st := 1, slash := c == 47 }, c == 62) else ({ s with tn := s.tn ++ [lowN c] }, c == 62)
  | 1 => if c == 62 then (s, true) else if blkB c || c == 47 then ({ s with slash := c == 47 }, false) else ({ s with st := 2, nm := [lowN c], vl := [] }, false)
  | 2 => if c == 61 then ({ s with st := 4 }, c == 62) else if blkB c then ({ s with st := 3 }, c == 62)
    else if c == 47 || c == 62 then ({ s with as := s.as ++ [(s.nm, [])], st := 1, slash := c == 47 }, c == 62) else ({ s with nm := s.nm ++ [lowN c] }, c == 62)
  | 3 => if blkB c then (s, c == 62) else if c == 61 then ({ s with st := 4 }, c == 62)
    else if c == 47 || c == 62 then ({ s with as := s.as ++ [(s.nm, [])], st := 1, slash := c == 47 }, c == 62)
    else ({ s with as := s.as ++ [(s.nm, [])], st := 2, slash := c == 47, nm := [lowN c], vl := [] }, c == 62)
  | 4 => if blkB c then (s, c == 62) else if c == 34 || c == 39 then ({ s with st := 6, q := c }, c == 62)
    else if c == 62 then ({ s with as := s.as ++ [(s.nm, [])], st := 1, slash := false }, true) else ({ s with st := 5, vl := [c] }, false)
  | 5 => if blkB c || c == 62 then ({ s with as := s.as ++ [(s.nm, s.vl)], st := 1, slash := false }, c == 62) else ({ s with vl := s.vl ++ [c] }, c == 62)
  | _ => if c == s.q then ({ s with as := s.as ++ [(s.nm, s.vl)], st := 1, slash := false }, false) else ({ s with vl := s.vl ++ [c] }, false)
def refEnd (N kind : Nat) (s : RS) : TG := ⟨kind, N, s.tn, if 2 ≤ s.st then s.as ++ [(s.nm, s.vl)] else s.as, false, false⟩
def refGo (N kind : Nat) : RS → List Nat → TG
  | s, [] => refEnd N kind s
  | s, c :: t => if (refStep s c).2 = true then ⟨kind, N - t.length, (refStep s c).1.tn, (refStep s c).1.as, (refStep s c).1.slash, true⟩ else refGo N kind (refStep s c).1 t


theorem blk_not {c : Nat} (h : blkB c = true) : c ≠ 47 ∧ c ≠ 62 ∧ c ≠ 61 ∧ c ≠ 34 ∧ c ≠ 39 := by
  simp [blkB] at h
  omega
theorem ref_end {N kind : Nat} {s : RS} {c : Nat} {t : List Nat} {u : RS} (h : refStep s c = (u, true)) : refGo N kind s (c :: t) = ⟨kind, N - t.length, u.tn, u.as, u.slash, true⟩ := by simp [refGo, h]
theorem ref_on {N kind : Nat} {s : RS} {c : Nat} {t : List Nat} {u : RS} (h : refStep s c = (u, false)) : refGo N kind s (c :: t) = refGo N kind u t := by simp [refGo, h]
theorem ref_st1_gt (N kind : Nat) (sl : Bool) (tn nm vl : List Nat) (q : Nat) (as : List AT) (t : List Nat) : refGo N kind ⟨1, sl, tn, nm, vl, q, as⟩ (62 :: t) = ⟨kind, N - t.length, tn, as, sl, true⟩ := ref_end (u := ⟨1, sl, tn, nm, vl, q, as⟩) rfl
theorem ref_st1_sl (N kind : Nat) (sl : Bool) (tn nm vl : List Nat) (q : Nat) (as : List AT) (t : List Nat) : refGo N kind ⟨1, sl, tn, nm, vl, q, as⟩ (47 :: t) = refGo N kind ⟨1, true, tn, nm, vl, q, as⟩ t := ref_on rfl
theorem ref_st1_blk (N kind : Nat) (sl : Bool) (tn nm vl : List Nat) (q : Nat) (as : List AT) {c : Nat} (hc : blkB c = true) (t : List Nat) : refGo N kind ⟨1, sl, tn, nm, vl, q, as⟩ (c :: t) = refGo N kind ⟨1, false, tn, nm, vl, q, as⟩ t := by
  have := blk_not hc
  exact ref_on (by simp [refStep, hc, this])
theorem ref_st1_else (N kind : Nat) (sl : Bool) (tn nm vl : List Nat) (q : Nat) (as : List AT) {c : Nat} (hc : blkB c = false) (h1 : c ≠ 47) (h2 : c ≠ 62) (t : List Nat) : refGo N kind ⟨1, sl, tn, nm, vl, q, as⟩ (c :: t) = refGo N kind ⟨2, sl, tn, [lowN c], [], q, as⟩ t :=
  ref_on (by simp [refStep, hc, h1, h2])
/-- What of the state may be whatever it is. -/
def BtTo (N kind : Nat) (tn : List Nat) (as : List AT) (l : List Nat) (r : TG) : Prop := ∃ nm vl q, r = refGo N kind ⟨1, false, tn, nm, vl, q, as⟩ l
theorem ref_quotes (N kind : Nat) (sl : Bool) (tn nm : List Nat) (q : Nat) (as : List AT) : ∀ (l vl : List Nat),
    refGo N kind ⟨6, sl, tn, nm, vl, q, as⟩ l = refGo N kind ⟨1, false, tn, nm, vl ++ runW (eQ q) l, q, as ++ [(nm, vl ++ runW (eQ q) l)]⟩ ((restW (eQ q) l).drop 1)
  | [], vl => by simp [refGo, refEnd, runW_nil, restW_nil]
  | c :: t, vl => by
    by_cases hc : c = q
    · subst hc
      rw [runW_hit t (by simp [eQ]), restW_hit t (by simp [eQ]), ref_on (u := ⟨1, false, tn, nm, vl, c, as ++ [(nm, vl)]⟩) (by simp [refStep])]
      simp
    · rw [runW_miss t (by simp [eQ, hc]), restW_miss t (by simp [eQ, hc]), ref_on (u := ⟨6, sl, tn, nm, vl ++ [c], q, as⟩) (by simp [refStep, hc]), ref_quotes N kind sl tn nm q as t]
      simp
theorem ref_value (N kind : Nat) (sl : Bool) (tn nm : List Nat) (q : Nat) (as : List AT) : ∀ (l vl : List Nat),
    BtTo N kind tn (as ++ [(nm, vl ++ runW eVal l)]) (restW eVal l) (refGo N kind ⟨5, sl, tn, nm, vl, q, as⟩ l)
  | [], vl => ⟨nm, vl, q, by simp [refGo, refEnd, runW_nil, restW_nil]⟩
  | c :: t, vl => by
    by_cases hb : blkB c = true
    · have hn := blk_not hb
      rw [runW_hit t (by simp [eVal, hb]), restW_hit t (by simp [eVal, hb])]
      refine ⟨nm, vl, q, ?_⟩
      rw [ref_st1_blk _ _ _ _ _ _ _ _ hb, ref_on (u := ⟨1, false, tn, nm, vl, q, as ++ [(nm, vl)]⟩) (by simp [refStep, hb, hn])]
      simp
    · have hb : blkB c = false := by simpa using hb
      by_cases h62 : c = 62
      · subst h62
        rw [runW_hit t rfl, restW_hit t rfl]
        refine ⟨nm, vl, q, ?_⟩
        rw [ref_st1_gt, ref_end (u := ⟨1, false, tn, nm, vl, q, as ++ [(nm, vl)]⟩) rfl]
        simp
      · rw [runW_miss t (by simp [eVal, hb, h62]), restW_miss t (by simp [eVal, hb, h62]), ref_on (u := ⟨5, sl, tn, nm, vl ++ [c], q, as⟩) (by simp [refStep, hb, h62])]
        have := ref_value N kind sl tn nm q as t (vl ++ [c])
        simpa using this
theorem eBlk_of {c : Nat} (h : blkB c = true) : eBlk c = false := by simp [eBlk, h]
theorem eBlk_not {c : Nat} (h : blkB c = false) : eBlk c = true := by simp [eBlk, h]
theorem ref_equals (N kind : Nat) (sl : Bool) (tn nm : List Nat) (q : Nat) (as : List AT) : ∀ (l : List Nat),
    BtTo N kind tn (as ++ [(nm, (valueR (restW eBlk l)).1)]) (valueR (restW eBlk l)).2 (refGo N kind ⟨4, sl, tn, nm, [], q, as⟩ l)
  | [] => ⟨nm, [], q, by simp [refGo, refEnd, restW_nil, valueR]⟩
  | c :: t => by
    by_cases hb : blkB c = true
    · have hn := blk_not hb
      rw [restW_miss t (eBlk_of hb), ref_on (u := ⟨4, sl, tn, nm, [], q, as⟩) (by simp [refStep, hb, hn])]
      exact ref_equals N kind sl tn nm q as t
    · have hb : blkB c = false := by simpa using hb
      rw [restW_hit t (eBlk_not hb)]
      by_cases hq : c = 34 ∨ c = 39
      · have e : valueR (c :: t) = (runW (eQ c) t, (restW (eQ c) t).drop 1) := by simp [valueR, hq]
        rw [e, ref_on (u := ⟨6, sl, tn, nm, [], c, as⟩) (by rcases hq with rfl | rfl <;> rfl), ref_quotes]
        exact ⟨nm, runW (eQ c) t, c, by simp⟩
      · have e : valueR (c :: t) = (runW eVal (c :: t), restW eVal (c :: t)) := by simp [valueR, hq]
        rw [e]
        by_cases h62 : c = 62
        · subst h62
          rw [runW_hit t rfl, restW_hit t rfl]
          refine ⟨nm, [], q, ?_⟩
          rw [ref_st1_gt, ref_end (u := ⟨1, false, tn, nm, [], q, as ++ [(nm, [])]⟩) rfl]
        · have hq' : c ≠ 34 ∧ c ≠ 39 := by omega
          rw [runW_miss t (by simp [eVal, hb, h62]), restW_miss t (by simp [eVal, hb, h62]), ref_on (u := ⟨5, sl, tn, nm, [c], q, as⟩) (by simp [refStep, hb, h62, hq'])]
          exact ref_value N kind sl tn nm q as t [c]
/-- An attribute, once its name is read. -/
def tailR (nm : List Nat) (r : List Nat) : AT × List Nat := match r with
  | [] => ((nm, []), [])
  | c :: t => if c = 61 then ((nm, (valueR (restW eBlk t)).1), (valueR (restW eBlk t)).2) else ((nm, []), c :: t)
theorem attrR_tail (l : List Nat) : attrR l = tailR (attrN l) (attrP l) := rfl
theorem ref_behind (N kind : Nat) (sl : Bool) (tn nm : List Nat) (q : Nat) (as : List AT) : ∀ (l : List Nat),
    BtTo N kind tn (as ++ [(tailR nm (restW eBlk l)).1]) (tailR nm (restW eBlk l)).2 (refGo N kind ⟨3, sl, tn, nm, [], q, as⟩ l)
  | [] => ⟨nm, [], q, by simp [refGo, refEnd, restW_nil, tailR]⟩
  | c :: t => by
    by_cases hb : blkB c = true
    · have hn := blk_not hb
      rw [restW_miss t (eBlk_of hb), ref_on (u := ⟨3, sl, tn, nm, [], q, as⟩) (by simp [refStep, hb, hn])]
      exact ref_behind N kind sl tn nm q as t
    · have hb : blkB c = false := by simpa using hb
      rw [restW_hit t (eBlk_not hb)]
      by_cases h61 : c = 61
      · subst h61
        rw [ref_on (u := ⟨4, sl, tn, nm, [], q, as⟩) rfl]
        exact ref_equals N kind sl tn nm q as t
      · have e : tailR nm (c :: t) = ((nm, []), c :: t) := by simp [tailR, h61]
        rw [e]
        by_cases h62 : c = 62
        · subst h62
          exact ⟨nm, [], q, by rw [ref_st1_gt, ref_end (u := ⟨1, false, tn, nm, [], q, as ++ [(nm, [])]⟩) rfl]⟩
        · by_cases h47 : c = 47
          · subst h47
            exact ⟨nm, [], q, by rw [ref_st1_sl, ref_on (u := ⟨1, true, tn, nm, [], q, as ++ [(nm, [])]⟩) rfl]⟩
          · exact ⟨nm, [], q, by rw [ref_st1_else _ _ _ _ _ _ _ _ hb h47 h62, ref_on (u := ⟨2, false, tn, [lowN c], [], q, as ++ [(nm, [])]⟩) (by simp [refStep, hb, h47, h62, h61])]⟩
theorem ref_attr (N kind : Nat) (sl : Bool) (tn : List Nat) (q : Nat) (as : List AT) : ∀ (l nm : List Nat),
    BtTo N kind tn (as ++ [(tailR (nm ++ lowL (runW eAttr l)) (restW eBlk (restW eAttr l))).1]) (tailR (nm ++ lowL (runW eAttr l)) (restW eBlk (restW eAttr l))).2 (refGo N kind ⟨2, sl, tn, nm, [], q, as⟩ l)
  | [], nm => ⟨nm, [], q, by simp [refGo, refEnd, restW_nil, runW_nil, tailR, lowL]⟩
  | c :: t, nm => by
    by_cases hb : blkB c = true
    · have hn := blk_not hb
      rw [runW_hit t (by simp [eAttr, hb]), restW_hit t (by simp [eAttr, hb]), restW_miss t (eBlk_of hb), ref_on (u := ⟨3, sl, tn, nm, [], q, as⟩) (by simp [refStep, hb, hn])]
      simpa [lowL] using ref_behind N kind sl tn nm q as t
    · have hb : blkB c = false := by simpa using hb
      by_cases h61 : c = 61
      · subst h61
        rw [runW_hit t rfl, restW_hit t rfl, restW_hit t rfl, ref_on (u := ⟨4, sl, tn, nm, [], q, as⟩) rfl]
        simpa [lowL, tailR] using ref_equals N kind sl tn nm q as t
      · by_cases h62 : c = 62
        · subst h62
          rw [runW_hit t rfl, restW_hit t rfl, restW_hit t rfl]
          exact ⟨nm, [], q, by simp only [lowL, List.map_nil, List.append_nil, tailR]; rw [if_neg (by decide), ref_st1_gt, ref_end (u := ⟨1, false, tn, nm, [], q, as ++ [(nm, [])]⟩) rfl]⟩
        · by_cases h47 : c = 47
          · subst h47
            rw [runW_hit t rfl, restW_hit t rfl, restW_hit t rfl]
            exact ⟨nm, [], q, by simp only [lowL, List.map_nil, List.append_nil, tailR]; rw [if_neg (by decide), ref_st1_sl, ref_on (u := ⟨1, true, tn, nm, [], q, as ++ [(nm, [])]⟩) rfl]⟩
          · have he : eAttr c = false := by simp [eAttr, hb, h61, h62, h47]
            rw [runW_miss t he, restW_miss t he, ref_on (u := ⟨2, sl, tn, nm ++ [lowN c], [], q, as⟩) (by simp [refStep, hb, h47, h62, h61])]
            simpa [lowL] using ref_attr N kind sl tn q as t (nm ++ [lowN c])
theorem ref_between (N kind : Nat) (tn nm vl : List Nat) (q : Nat) (as : List AT) : ∀ (l : List Nat) (sl : Bool),
    refGo N kind ⟨1, sl, tn, nm, vl, q, as⟩ l = match restW eSep l with
      | [] => ⟨kind, N, tn, as, false, false⟩
      | c :: t => if c = 62 then ⟨kind, N - t.length, tn, as, (match (runW eSep l).getLast? with | none => sl | some x => x == 47), true⟩ else refGo N kind ⟨2, (match (runW eSep l).getLast? with | none => sl | some x => x == 47), tn, [lowN c], [], q, as⟩ t
  | [], sl => by simp [refGo, refEnd, restW_nil]
  | c :: t, sl => by
    have hl : ∀ (r : List Nat) (s : Bool), (c :: r).getLast? = some ((r.getLast?).getD c) := fun r s => by simp [List.getLast?_cons]
    by_cases hb : blkB c = true
    · have hn := blk_not hb
      have e47 : (c == 47) = false := by simp [hn]
      rw [ref_st1_blk _ _ _ _ _ _ _ _ hb, restW_miss t (by simp [eSep, hb]), runW_miss t (by simp [eSep, hb]), ref_between N kind tn nm vl q as t, hl _ sl]
      cases (runW eSep t).getLast? <;> simp [e47]
    · have hb : blkB c = false := by simpa using hb
      by_cases h47 : c = 47
      · subst h47
        rw [ref_st1_sl, restW_miss t rfl, runW_miss t rfl, ref_between N kind tn nm vl q as t, hl _ sl]
        cases (runW eSep t).getLast? <;> simp
      · have he : eSep c = true := by simp [eSep, hb, h47]
        rw [restW_hit t he, runW_hit t he]
        by_cases h62 : c = 62
        · subst h62
          rw [ref_st1_gt]; rfl
        · rw [ref_st1_else _ _ _ _ _ _ _ _ hb h47 h62]
          simp [h62]
/-- Both ways, behind the name. -/
theorem ref_tagR (N kind : Nat) (tn : List Nat) : ∀ (f : Nat) (as : List AT) (l nm vl : List Nat) (q : Nat), l.length ≤ f → refGo N kind ⟨1, false, tn, nm, vl, q, as⟩ l = tagR N kind tn f as l := by
  intro f
  induction f with
  | zero =>
    intro as l nm vl q h
    have : l = [] := List.eq_nil_of_length_eq_zero (by omega)
    subst this
    simp [refGo, refEnd, tagR, restW_nil]
  | succ f ih =>
    intro as l nm vl q h
    rw [ref_between, tagR]
    have hle := restW_le eSep l
    cases e : restW eSep l with
    | nil => rfl
    | cons c t =>
      rw [e] at hle
      dsimp only
      by_cases h62 : c = 62
      · rw [if_pos h62, if_pos h62]
        cases (runW eSep l).getLast? <;> simp
      · rw [if_neg h62, if_neg h62]
        obtain ⟨nm', vl', q', hh⟩ := ref_attr N kind (match (runW eSep l).getLast? with | none => false | some x => x == 47) tn q as t [lowN c]
        rw [hh]
        have ea : attrR (c :: t) = tailR ([lowN c] ++ lowL (runW eAttr t)) (restW eBlk (restW eAttr t)) := by
          rw [attrR_tail]
          simp [attrN, attrP, lowL]
        rw [ea]
        refine ih _ _ _ _ _ ?_
        rw [← ea]
        have := attrR_lt (l := c :: t) (by simp)
        omega
theorem ref_name (N kind : Nat) (nm vl : List Nat) (q : Nat) (as : List AT) : ∀ (l tn : List Nat) (sl : Bool),
    refGo N kind ⟨0, sl, tn, nm, vl, q, as⟩ l = refGo N kind ⟨1, false, tn ++ lowL (runW eName l), nm, vl, q, as⟩ (restW eName l)
  | [], tn, sl => by simp [refGo, refEnd, runW_nil, restW_nil, lowL]
  | c :: t, tn, sl => by
    by_cases hb : blkB c = true
    · have hn := blk_not hb
      rw [runW_hit t (by simp [eName, hb]), restW_hit t (by simp [eName, hb]), ref_st1_blk _ _ _ _ _ _ _ _ hb, ref_on (u := ⟨1, false, tn, nm, vl, q, as⟩) (by simp [refStep, hb, hn])]
      simp [lowL]
    · have hb : blkB c = false := by simpa using hb
      by_cases h62 : c = 62
      · subst h62
        rw [runW_hit t rfl, restW_hit t rfl, ref_st1_gt, ref_end (u := ⟨1, false, tn, nm, vl, q, as⟩) rfl]
        simp [lowL]
      · by_cases h47 : c = 47
        · subst h47
          rw [runW_hit t rfl, restW_hit t rfl, ref_st1_sl, ref_on (u := ⟨1, true, tn, nm, vl, q, as⟩) rfl]
          simp [lowL]
        · have he : eName c = false := by simp [eName, hb, h62, h47]
          rw [runW_miss t he, restW_miss t he, ref_on (u := ⟨0, sl, tn ++ [lowN c], nm, vl, q, as⟩) (by simp [refStep, hb, h47, h62]), ref_name N kind nm vl q as t]
          simp [lowL]
def rs0 : RS := ⟨0, false, [], [], [], 0, []⟩
/-- A tag's reading is the document's. -/
theorem ref_tag (N kind : Nat) (l : List Nat) : refGo N kind rs0 l = tagR N kind (lowL (runW eName l)) (restW eName l).length [] (restW eName l) := by
  unfold rs0
  rw [ref_name, List.nil_append]
  exact ref_tagR _ _ _ _ _ _ _ _ _ (Nat.le_refl _)
end Go.Proofs.Ytplnkmojkdbbnaa
