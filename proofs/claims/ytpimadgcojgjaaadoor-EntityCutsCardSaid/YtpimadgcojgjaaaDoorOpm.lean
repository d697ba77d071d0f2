/-
  Mathematics: when bytes are open.
-/
import Derived.Test.YtpimadgcojgjaaaDoorWmt
import Derived.Test.YtpimadgcojgjaaaDoorOpe
namespace Go.Proofs.YtpimadgcojgjaaaDoor
open Go.RowKit Go.Shelf Go.Lib Go.Maps Go.Great

/-- Bytes from a place on go on to the end just if each may follow, and none is a ;. -/
theorem fol_all {may : List Nat → Nat → Bool} {xs : List Nat} {h : Nat} : ∀ (r : List Nat) (n : Nat), r = xs.drop n → n ≤ xs.length → (fol may xs h n r = (xs.length, false) ↔ ∀ (j c : Nat), n ≤ j → xs[j]? = some c → c ≠ 59 ∧ may ((xs.take j).drop h) c = true)
  | [], n, hr, hn => by
    have hl := congrArg List.length hr
    simp at hl
    have : n = xs.length := by omega
    subst this
    simp only [fol, true_iff]
    intro j c hj hc
    have := (List.getElem?_eq_some_iff.1 hc).1
    omega
  | c :: r, n, hr, hn => by
    have hx : xs[n]? = some c := by have := congrArg (·[0]?) hr; simpa using this.symm
    have hlt := (List.getElem?_eq_some_iff.1 hx).1
    have hr2 : r = xs.drop (n + 1) := by
      have := drop_at hx
      rw [← hr] at this
      injection this
    have ih := fol_all (may := may) (h := h) r (n + 1) hr2 (by omega)
    rw [fol]
    by_cases hm : may ((xs.take n).drop h) c = true
    · rw [if_pos hm]
      by_cases hc : c = 59
      · rw [if_pos hc]
        constructor
        · intro e
          simp at e
        · intro e
          exact absurd hc (e n c (Nat.le_refl _) hx).1
      · rw [if_neg hc, ih]
        constructor
        · intro e j d hj hd
          by_cases e2 : j = n
          · subst e2
            have := hd.symm.trans hx
            injection this with this
            subst this
            exact ⟨hc, hm⟩
          · exact e j d (by omega) hd
        · intro e j d hj hd
          exact e j d (by omega) hd
    · rw [if_neg hm]
      constructor
      · intro e
        simp at e
        omega
      · intro e
        exact absurd (e n c (Nat.le_refl _) hx).2 hm
/-- The same of what stands behind a style's beginning. -/
theorem follow_open (beg : List UInt8) (may : List Nat → Nat → Bool) (t : List Nat) : followR beg may (nats beg ++ t) = ((nats beg ++ t).length, false) ↔ ∀ (i c : Nat), t[i]? = some c → c ≠ 59 ∧ may (t.take i) c = true := by
  have hp : (nats beg).isPrefixOf (nats beg ++ t) = true := by rw [List.isPrefixOf_iff_prefix]; exact List.prefix_append _ _
  have hl : (nats beg).length = beg.length := nats_length beg
  rw [followR, if_pos hp, fol_all _ _ rfl (by rw [List.length_append, hl]; omega)]
  constructor
  · intro e i c hi
    have h := e (beg.length + i) c (by omega) (by rw [List.getElem?_append_right (by omega), hl, show beg.length + i - beg.length = i by omega]; exact hi)
    rw [List.take_append, hl, show beg.length + i - beg.length = i by omega, List.take_of_length_le (by omega), List.drop_append, hl, Nat.sub_self, List.drop_of_length_le (by omega)] at h
    exact h
  · intro e j c hj hc
    obtain ⟨i, rfl⟩ : ∃ i, j = beg.length + i := ⟨j - beg.length, by omega⟩
    rw [List.getElem?_append_right (by omega), hl, show beg.length + i - beg.length = i by omega] at hc
    have h := e i c hc
    rw [List.take_append, hl, show beg.length + i - beg.length = i by omega, List.take_of_length_le (by omega), List.drop_append, hl, Nat.sub_self, List.drop_of_length_le (by omega)]
    exact h
theorem u8s_natsE (l : List UInt8) : u8s (nats l) = l := by
  unfold u8s nats
  rw [List.map_map]
  conv => rhs; rw [← List.map_id l]
  refine List.map_congr_left fun x _ => ?_
  simp
/-- A beginning of a name. -/
def nmPre (u : List Nat) : Bool := nmE.any fun x => u.isPrefixOf (nats x.1)
theorem nm_no59 : ∀ x ∈ nmE, 59 ∉ nats x.1 := fun x hx => (nm_inn x hx).1
theorem pre_at {u v : List Nat} (h : u <+: v) {i c : Nat} (hc : u[i]? = some c) : v[i]? = some c ∧ v.take i = u.take i := by
  obtain ⟨w, rfl⟩ := h
  have hi := (List.getElem?_eq_some_iff.1 hc).1
  exact ⟨by rw [List.getElem?_append_left hi]; exact hc, by rw [List.take_append_of_le_length (by omega)]⟩
theorem mayNm_iff {u : List Nat} (h256 : ∀ x ∈ u, x < 256) {c : Nat} (hc : c ≠ 59) : mayNm u c = true ↔ ∃ x ∈ nmE, (u ++ [c]) <+: nats x.1 := by
  unfold mayNm
  rw [List.find?_isSome]
  constructor
  · rintro ⟨x, hx, hm⟩
    refine ⟨x, hx, ?_⟩
    unfold isMy at hm
    rw [if_neg hc] at hm
    simp only [Bool.and_eq_true, decide_eq_true_eq, beq_iff_eq] at hm
    obtain ⟨⟨h1, h2⟩, h3⟩ := hm
    have h4 : (nats x.1).take u.length = u := by
      have := congrArg nats h2
      rw [nats_u8s _ h256] at this
      rw [← this]
      simp [nats]
    have h5 : (nats x.1)[u.length]? = some c := by
      have hl : u.length < (nats x.1).length := by rw [nats_length]; exact h1
      rw [List.getD_eq_getElem?_getD, List.getElem?_eq_getElem hl] at h3
      rw [List.getElem?_eq_getElem hl]
      simpa using h3
    have h6 := List.take_add_one (l := nats x.1) (i := u.length)
    rw [h5, h4] at h6
    rw [show u ++ [c] = u ++ (some c).toList from rfl, ← h6]
    exact List.take_prefix _ _
  · rintro ⟨x, hx, hp⟩
    refine ⟨x, hx, ?_⟩
    have hl := hp.length_le
    rw [nats_length] at hl
    simp at hl
    have ha := pre_at hp (i := u.length) (c := c) (by simp)
    have h4 : (nats x.1).take u.length = u := by rw [ha.2]; simp
    unfold isMy
    rw [if_neg hc]
    simp only [Bool.and_eq_true, decide_eq_true_eq, beq_iff_eq]
    refine ⟨⟨by omega, ?_⟩, ?_⟩
    · have h5 : u8s u = u8s ((nats x.1).take u.length) := by rw [h4]
      rw [h5, show (nats x.1).take u.length = nats (x.1.take u.length) by simp [nats], u8s_natsE]
    · rw [List.getD_eq_getElem?_getD, ha.1]
      rfl
theorem style_open_n {t : List Nat} (h256 : ∀ x ∈ t, x < 256) : (∀ (i c : Nat), t[i]? = some c → c ≠ 59 ∧ mayNm (t.take i) c = true) ↔ nmPre t = true := by
  unfold nmPre
  rw [List.any_eq_true]
  constructor
  · intro h
    rcases List.eq_nil_or_concat t with rfl | ⟨u, c, rfl⟩
    · exact ⟨([97, 109, 112], 38), by unfold nmE; simp, by simp⟩
    · rw [List.concat_eq_append] at *
      have h1 := h u.length c (by simp)
      rw [List.take_append_of_le_length (Nat.le_refl _), List.take_length] at h1
      obtain ⟨x, hx, hp⟩ := (mayNm_iff (fun y hy => h256 y (by simp [hy])) h1.1).1 h1.2
      exact ⟨x, hx, by rw [List.isPrefixOf_iff_prefix]; exact hp⟩
  · rintro ⟨x, hx, hp⟩ i c hc
    rw [List.isPrefixOf_iff_prefix] at hp
    have ha := pre_at hp hc
    have h59 : c ≠ 59 := fun e => nm_no59 x hx (by rw [← e]; exact List.mem_of_getElem? ha.1)
    refine ⟨h59, (mayNm_iff (fun y hy => h256 y (List.mem_of_mem_take hy)) h59).2 ⟨x, hx, ?_⟩⟩
    have h6 := List.take_add_one (l := nats x.1) (i := i)
    rw [ha.1, ha.2] at h6
    rw [show t.take i ++ [c] = t.take i ++ (some c).toList from rfl, ← h6]
    exact List.take_prefix _ _
theorem style_open_d {b most : Nat} (hb : b = 10 ∨ b = 16) {t : List Nat} : (∀ (i c : Nat), t[i]? = some c → c ≠ 59 ∧ mayD b most (t.take i) c = true) ↔ (t.all (dgB b) && decide (t.length ≤ most)) = true := by
  rw [Bool.and_eq_true, List.all_eq_true, decide_eq_true_eq]
  constructor
  · intro h
    have hd : ∀ (i c : Nat), t[i]? = some c → i < most ∧ dgB b c = true := fun i c hc => by
      have h1 := h i c hc
      have hi := (List.getElem?_eq_some_iff.1 hc).1
      unfold mayD at h1
      rw [if_neg h1.1] at h1
      have h2 := h1.2
      simp only [Bool.and_eq_true, decide_eq_true_eq] at h2
      have hl : (t.take i).length = i := by rw [List.length_take]; omega
      rw [hl] at h2
      exact h2
    refine ⟨fun c hc => ?_, ?_⟩
    · obtain ⟨i, hi, e⟩ := List.getElem_of_mem hc
      exact (hd i c (by rw [List.getElem?_eq_getElem hi, e])).2
    · rcases Nat.eq_zero_or_pos t.length with e | e
      · omega
      · have := (hd (t.length - 1) _ (List.getElem?_eq_getElem (by omega))).1
        omega
  · rintro ⟨h1, h2⟩ i c hc
    have hi := (List.getElem?_eq_some_iff.1 hc).1
    have hd := h1 c (List.mem_of_getElem? hc)
    have h59 : c ≠ 59 := fun e => by rw [e, no59 hb] at hd; cases hd
    refine ⟨h59, ?_⟩
    unfold mayD
    rw [if_neg h59, hd]
    have hl : (t.take i).length = i := by rw [List.length_take]; omega
    rw [hl]
    simp
    omega
/-- Bytes are open. -/
def opD (d : List Nat) : Bool := d.all (dgB 10) && decide (d.length ≤ 7)
def opH : List Nat → Bool
  | X :: e => (X == 120 || X == 88) && (e.all (dgB 16) && decide (e.length ≤ 6))
  | [] => false
def opN : List Nat → Bool
  | 35 :: d => opD d || opH d
  | _ => false
def openZ : List Nat → Bool
  | 38 :: t => nmPre t || opN t
  | _ => false
theorem open_skip {s : Sty} {r : List Sty} {ys : List Nat} (h : followR s.beg s.may ys ≠ (ys.length, false)) : openS (s :: r) ys = openS r ys := by
  obtain ⟨m, wh, e⟩ : ∃ m wh, followR s.beg s.may ys = (m, wh) := ⟨_, _, rfl⟩
  refine openS_no e (fun hh => h ?_)
  rw [e, hh.1, hh.2]
theorem open_hit {s : Sty} {r : List Sty} {ys : List Nat} (h : followR s.beg s.may ys = (ys.length, false)) (h0 : 0 < ys.length) : openS (s :: r) ys = true := by
  rw [openS_yes h rfl]
  simpa using h0
theorem follow_other {beg : List UInt8} {may : List Nat → Nat → Bool} {ys : List Nat} (h : (nats beg).isPrefixOf ys = false) (h0 : 0 < ys.length) : followR beg may ys ≠ (ys.length, false) := by
  rw [followR, if_neg (by rw [h]; simp)]
  intro e
  have := congrArg Prod.fst e
  simp at this
  omega
/-- One style more. -/
theorem open_step (beg : List UInt8) (may : List Nat → Nat → Bool) (mn : List Nat → Int) (r : List Sty) (t : List Nat) (B : Bool) (hB : (∀ (i c : Nat), t[i]? = some c → c ≠ 59 ∧ may (t.take i) c = true) ↔ B = true) (h0 : 0 < (nats beg ++ t).length) :
    openS (⟨beg, may, mn⟩ :: r) (nats beg ++ t) = (B || openS r (nats beg ++ t)) := by
  have hf := (follow_open beg may t).trans hB
  cases B with
  | true => rw [open_hit (s := ⟨beg, may, mn⟩) (hf.2 rfl) h0]; rfl
  | false => rw [open_skip (s := ⟨beg, may, mn⟩) (fun e => by cases hf.1 e)]; rfl
theorem open_other {s : Sty} {r : List Sty} {ys : List Nat} (h : (nats s.beg).isPrefixOf ys = false) (h0 : 0 < ys.length) : openS (s :: r) ys = openS r ys := open_skip (follow_other h h0)
/-- The styles say so. -/
theorem open_same : ∀ (ys : List Nat), (∀ x ∈ ys, x < 256) → openS styL ys = openZ ys
  | [], _ => by decide
  | a :: t, h256 => by
    by_cases ha : a = 38
    · subst ha
      have ht : ∀ x ∈ t, x < 256 := fun x hx => h256 x (by simp [hx])
      have e1 := open_step [38] mayNm (fun l => nmR (u8s l)) [stD [38, 35] 10 7, stD [38, 35, 120] 16 6, stD [38, 35, 88] 16 6] t (nmPre t) (style_open_n ht) (by simp [nats])
      have en : nats [38] ++ t = 38 :: t := rfl
      rw [en] at e1
      show openS (⟨[38], mayNm, fun l => nmR (u8s l)⟩ :: [stD [38, 35] 10 7, stD [38, 35, 120] 16 6, stD [38, 35, 88] 16 6]) (38 :: t) = (nmPre t || opN t)
      rw [e1]
      congr 1
      cases t with
      | nil =>
        rw [open_other (by decide) (by simp), open_other (by decide) (by simp), open_other (by decide) (by simp)]
        rfl
      | cons b d =>
        by_cases hb : b = 35
        · subst hb
          have e2 := open_step [38, 35] (mayD 10 7) (fun l => mnR (nbV 10 l 0)) [stD [38, 35, 120] 16 6, stD [38, 35, 88] 16 6] d (opD d) (style_open_d (.inl rfl)) (by simp [nats])
          have en2 : nats [38, 35] ++ d = 38 :: 35 :: d := rfl
          rw [en2] at e2
          show openS (⟨[38, 35], mayD 10 7, fun l => mnR (nbV 10 l 0)⟩ :: [stD [38, 35, 120] 16 6, stD [38, 35, 88] 16 6]) (38 :: 35 :: d) = (opD d || opH d)
          rw [e2]
          congr 1
          cases d with
          | nil =>
            rw [open_other (by decide) (by simp), open_other (by decide) (by simp)]
            rfl
          | cons X e =>
            by_cases hx : X = 120
            · subst hx
              have e3 := open_step [38, 35, 120] (mayD 16 6) (fun l => mnR (nbV 16 l 0)) [stD [38, 35, 88] 16 6] e (e.all (dgB 16) && decide (e.length ≤ 6)) (style_open_d (.inr rfl)) (by simp [nats])
              have en3 : nats [38, 35, 120] ++ e = 38 :: 35 :: 120 :: e := rfl
              rw [en3] at e3
              show openS (⟨[38, 35, 120], mayD 16 6, fun l => mnR (nbV 16 l 0)⟩ :: [stD [38, 35, 88] 16 6]) (38 :: 35 :: 120 :: e) = opH (120 :: e)
              rw [e3, open_other (by show (List.isPrefixOf [38, 35, 88] (38 :: 35 :: 120 :: e)) = false; rfl) (by simp)]
              simp [openS, opH]
            · rw [open_other (by simp [stD, nats, List.isPrefixOf]; intro h; exact absurd h.symm hx) (by simp)]
              by_cases hx2 : X = 88
              · subst hx2
                have e3 := open_step [38, 35, 88] (mayD 16 6) (fun l => mnR (nbV 16 l 0)) [] e (e.all (dgB 16) && decide (e.length ≤ 6)) (style_open_d (.inr rfl)) (by simp [nats])
                have en3 : nats [38, 35, 88] ++ e = 38 :: 35 :: 88 :: e := rfl
                rw [en3] at e3
                show openS (⟨[38, 35, 88], mayD 16 6, fun l => mnR (nbV 16 l 0)⟩ :: []) (38 :: 35 :: 88 :: e) = opH (88 :: e)
                rw [e3]
                simp [openS, opH]
              · rw [open_other (by simp [stD, nats, List.isPrefixOf]; intro h; exact absurd h.symm hx2) (by simp)]
                simp [openS, opH, hx, hx2]
        · rw [open_other (by simp [stD, nats, List.isPrefixOf]; intro h; exact absurd h.symm hb) (by simp), open_other (by simp [stD, nats, List.isPrefixOf]; intro h; exact absurd h.symm hb) (by simp), open_other (by simp [stD, nats, List.isPrefixOf]; intro h; exact absurd h.symm hb) (by simp)]
          unfold opN
          split
          · rename_i d' e
            injection e with e1 e2
            exact absurd e1 hb
          · rfl
    · have hz : openZ (a :: t) = false := by
        unfold openZ
        split
        · rename_i t' e
          injection e with e1 e2
          exact absurd e1 ha
        · rfl
      rw [hz]
      have ho : ∀ s ∈ styL, (nats s.beg).isPrefixOf (a :: t) = false := fun s hs => by
        simp [styL] at hs
        rcases hs with rfl | rfl | rfl | rfl <;> (simp [stN, stD, nats, List.isPrefixOf]; intro h; exact absurd h.symm ha)
      show openS [stN, stD [38, 35] 10 7, stD [38, 35, 120] 16 6, stD [38, 35, 88] 16 6] (a :: t) = false
      rw [open_other (ho _ (by simp [styL])) (by simp), open_other (ho _ (by simp [styL])) (by simp), open_other (ho _ (by simp [styL])) (by simp), open_other (ho _ (by simp [styL])) (by simp)]
      rfl
end Go.Proofs.YtpimadgcojgjaaaDoor
