/-
  TagCase: the walk of the law.
-/
import Derived.Test.YtplnkmojkdbbnaaGrw
import Derived.Test.YtplnkmojkdbbnaaCas
namespace Go.Proofs.Ytplnkmojkdbbnaa
open Go.RowKit Go.Shelf Go.Lib Go.Maps Go.Sort

theorem step_vl (s : RS) (c : Nat) : (refStep s c).1.vl = s.vl ∨ (refStep s c).1.vl = [] ∨ (refStep s c).1.vl = [c] ∨ (refStep s c).1.vl = s.vl ++ [c] := by
  unfold refStep
  split <;> (repeat' split) <;> simp
theorem step_ats (s : RS) (c : Nat) : (refStep s c).1.«as» = s.«as» ∨ (refStep s c).1.«as» = s.«as» ++ [(s.nm, [])] ∨ (refStep s c).1.«as» = s.«as» ++ [(s.nm, s.vl)] := by
  unfold refStep
  split <;> (repeat' split) <;> simp
def OkV (M : Nat) (l : List AT) : Prop := ∀ a ∈ l, (∀ x ∈ a.2, x < 256) ∧ a.2.length ≤ M
theorem OkV.snoc {M : Nat} {l : List AT} (h : OkV M l) {n v : List Nat} (h1 : ∀ x ∈ v, x < 256) (h2 : v.length ≤ M) : OkV M (l ++ [(n, v)]) := fun a ha => by
  rcases List.mem_append.1 ha with ha | ha
  · exact h a ha
  · simp at ha
    subst ha
    exact ⟨h1, h2⟩
theorem refGo_vals (N k M : Nat) : ∀ (l : List Nat) (s : RS), (∀ x ∈ l, x < 256) → OkV M s.«as» → (∀ x ∈ s.vl, x < 256) → s.vl.length + l.length ≤ M → OkV M (refGo N k s l).attrs
  | [], s, _, h1, h2, h3 => by
    show OkV M (refEnd N k s).attrs
    unfold refEnd
    dsimp only
    split
    · exact h1.snoc h2 (by simpa using h3)
    · exact h1
  | c :: t, s, h0, h1, h2, h3 => by
    have hc := h0 c (by simp)
    simp at h3
    have k1 : OkV M (refStep s c).1.«as» := by
      rcases step_ats s c with e | e | e <;> rw [e]
      · exact h1
      · exact h1.snoc (fun x hx => by simp at hx) (by simp)
      · exact h1.snoc h2 (by omega)
    have k2 : (∀ x ∈ (refStep s c).1.vl, x < 256) ∧ (refStep s c).1.vl.length + t.length ≤ M := by
      rcases step_vl s c with e | e | e | e <;> rw [e]
      · exact ⟨h2, by omega⟩
      · exact ⟨fun x hx => by simp at hx, by simp; omega⟩
      · exact ⟨fun x hx => by simp at hx; omega, by simp; omega⟩
      · refine ⟨fun x hx => ?_, by simp; omega⟩
        rcases List.mem_append.1 hx with hx | hx
        · exact h2 x hx
        · simp at hx; omega
    unfold refGo
    split
    · exact k1
    · exact refGo_vals N k M t _ (fun x hx => h0 x (by simp [hx])) k1 k2.1 k2.2
theorem rdT_vals (l : List Nat) (h : ∀ x ∈ l, x < 256) : OkV l.length ((rdT l).getD tg0).attrs := by
  match l with
  | [] => exact fun a ha => by simp [rdT, tg0] at ha
  | [d] => exact fun a ha => by simp [rdT, tg0] at ha
  | d :: c :: t =>
    have hz : OkV (d :: c :: t).length rs0.«as» := fun a ha => by simp [rs0] at ha
    have hv : ∀ x ∈ rs0.vl, x < 256 := fun x hx => by simp [rs0] at hx
    have hu : ∀ N k e m, OkV (d :: c :: t).length (upGo N k e m).attrs := fun N k e m => by
      rw [(upGo_plain N k e m).2.1]
      exact fun a ha => by simp at ha
    simp only [rdT]
    split
    · exact fun a ha => by simp [tg0] at ha
    · split
      · exact refGo_vals _ _ _ (c :: t) rs0 (fun x hx => h x (by simp at hx ⊢; exact .inr hx)) hz hv (by simp [rs0])
      · split
        · exact refGo_vals _ _ _ t rs0 (fun x hx => h x (by simp [hx])) hz hv (by simp [rs0]; omega)
        · split
          · exact hu _ _ _ _
          · split
            · exact hu _ _ _ _
            · exact fun a ha => by simp [tg0] at ha
/-- A row of the call's own that is written. -/
structure RowW (w : World) (g : Nat) (l : List Nat) (cap : Nat) : Prop where
  row : ∃ cur, w.heap[g]? = some (.cells cur 5 (0, 0)) ∧ cur.size = cap ∧ ∀ (i x : Nat), l[i]? = some x → cur[i]? = some (.int .u8 (x : Int))
  le : l.length ≤ cap
  mx : cap ≤ maxLen
  b : ∀ x ∈ l, x < 256
theorem RowW.lt {w : World} {g : Nat} {l : List Nat} {cap : Nat} (h : RowW w g l cap) : g < w.heap.size := by
  obtain ⟨cur, h1, _⟩ := h.row
  exact (Array.getElem?_eq_some_iff.1 h1).1
theorem RowW.by {w : World} {g : Nat} {l : List Nat} {cap : Nat} (h : RowW w g l cap) : BY w w.heap.size l (some ⟨g, 0, none⟩) cap := by
  have hlt := h.lt
  obtain ⟨cur, h1, _, h2⟩ := h.row
  refine ⟨h.le, h.mx, fun e => (by cases e), h.b, fun _ => ⟨g, 0, rfl, hlt, fun i x hx => ?_⟩⟩
  rw [Nat.zero_add]
  unfold World.cell?
  rw [h1]
  simp only []
  exact h2 i x hx
theorem RowW.froz {w : World} {g : Nat} {l : List Nat} {cap i : Nat} (h : RowW w g l cap) : w.frozen? ⟨g, i, none⟩ = false := by
  obtain ⟨cur, h1, _⟩ := h.row
  simp [World.frozen?, h1]
theorem RowW.set {w : World} {g : Nat} {l : List Nat} {cap : Nat} (h : RowW w g l cap) (i y : Nat) (hy : y < 256) : RowW (w.setCell ⟨g, i, none⟩ (.int .u8 (y : Int))) g (l.set i y) cap := by
  obtain ⟨cur, h1, h2, h4⟩ := h.row
  refine ⟨⟨cur.setIfInBounds i (.int .u8 (y : Int)), ?_, by simpa using h2, ?_⟩, by simpa using h.le, h.mx, fun x hx => ?_⟩
  · unfold World.setCell
    simp only [Array.getElem?_modify, if_true]
    rw [h1]
    rfl
  · intro j x hx
    rw [List.getElem?_set] at hx
    by_cases e : i = j
    · subst e
      rw [if_pos rfl] at hx
      split at hx
      · rename_i hl
        have := h.le
        simp at hx
        subst hx
        rw [Array.getElem?_setIfInBounds_self_of_lt (by omega)]
      · cases hx
    · rw [if_neg e] at hx
      rw [Array.getElem?_setIfInBounds_ne e]
      exact h4 j x hx
  · rcases List.mem_or_eq_of_mem_set hx with h5 | h5
    · exact h.b x h5
    · omega
theorem OwnB.rw {w : World} {base : Nat} {l : List Nat} {v : Value} (h : OwnB w base l v) (hl : ∀ x ∈ l, x < 256) : ∃ A cap, v = .slice A l.length cap ∧ BY w w.heap.size l A cap ∧ (l ≠ [] → ∃ g, A = some ⟨g, 0, none⟩ ∧ base ≤ g ∧ RowW w g l cap) := by
  obtain ⟨A, cap, rfl, hb⟩ := h.by hl
  refine ⟨A, cap, rfl, hb, fun hne => ?_⟩
  rcases h.2 with ⟨_, h2⟩ | ⟨g, cap', cur, h1, h2, h3, h4, h5, h6, h7⟩
  · exact absurd (List.eq_nil_of_length_eq_zero h2) hne
  · injection h1 with e1 _ e3
    subst e1 e3
    refine ⟨g, rfl, h2, ⟨cur, h3, by simpa using h6, fun i x hx => ?_⟩, h4, h5, hl⟩
    obtain ⟨b', o', e', _, hc⟩ := hb.at hx
    obtain ⟨rfl, rfl⟩ : g = b' ∧ 0 = o' := by simpa using e'
    rw [Nat.zero_add] at hc
    unfold World.cell? at hc
    rw [h3] at hc
    exact hc
/-- So many letters are great. -/
def mixU (k : Nat) (l : List Nat) : List Nat := upL (l.take k) ++ l.drop k
theorem mixU_zero (l : List Nat) : mixU 0 l = l := by simp [mixU, upL]
theorem mixU_all (l : List Nat) : mixU l.length l = upL l := by simp [mixU]
theorem mixU_at {k x : Nat} {l : List Nat} (h : l[k]? = some x) : (mixU k l)[k]? = some x := by
  have hk := (List.getElem?_eq_some_iff.1 h).1
  unfold mixU
  have e : (upL (l.take k)).length = k := by simp [upL]; omega
  rw [List.getElem?_append_right (by omega), e, Nat.sub_self, List.getElem?_drop]
  exact h
theorem mixU_next {k x : Nat} {l : List Nat} (h : l[k]? = some x) : mixU (k + 1) l = (mixU k l).set k (upN x) := by
  have hk := (List.getElem?_eq_some_iff.1 h).1
  unfold mixU
  have e : (upL (l.take k)).length = k := by simp [upL]; omega
  rw [List.set_append_right _ _ (by omega), e, Nat.sub_self, drop_at h, List.set_cons_zero, List.take_add_one, h]
  simp [upL]
theorem mixU_same {k x : Nat} {l : List Nat} (h : l[k]? = some x) (hx : upN x = x) : mixU (k + 1) l = mixU k l := by
  rw [mixU_next h, hx]
  obtain ⟨h1, e⟩ := List.getElem?_eq_some_iff.1 (mixU_at h)
  have := List.set_getElem_self h1
  rw [e] at this
  exact this
theorem upN_lt {x : Nat} (h : x < 256) : upN x < 256 := by unfold upN; split <;> omega
set_option maxHeartbeats 16000000 in
set_option maxRecDepth 100000 in
theorem caseLaw_any (xs : List Nat) (A : Option Addr) (cap : Nat) (w : World) (hm : MX w) (h : BY w w.heap.size xs A cap) :
    Calls Try.prog 7 #[.slice A xs.length cap] w fun r w' => r = .returned (.bool true) ∧ Below w.heap.size w w' := by
  have hlen := h.len
  have hAw := awake_any w hm
  by_cases hl : 200 < xs.length
  · generalize xs.length = N at *
    have i1 : (200 : Int) < (N : Int) := by omega
    have HA := Lib.hid hAw
    clear h hl hAw hm
    go_enter Try.func7, Try.ntmps7
    go_wp2_with fail
    refine HA.out.mono ?_
    rintro r w1 ⟨rfl, hb1⟩
    have HB := Lib.hid hb1
    clear hb1
    go_wp2_with fail
    go_ret
    exact ⟨rfl, HB.out⟩
  have hul : (upL xs).length = xs.length := by simp [upL]
  have hu256 : ∀ x ∈ upL xs, x < 256 := fun x hx => by
    obtain ⟨y, hy, rfl⟩ := List.mem_map.1 hx
    exact upN_lt (h.i y hy)
  have K1 := fun W (hb : Below w.heap.size w W) => readV_any xs A cap 0 W (hm.on hm.pos hb) (h.on hb) (by omega)
  have K2 := fun W A5 c5 (hb : Below w.heap.size w W) (h5 : BY W W.heap.size (upL xs) A5 c5) => readV_any (upL xs) A5 c5 0 W (hm.on hm.pos hb) h5 (by rw [hul]; omega)
  rw [hul] at K2
  rw [rdAt_zero] at K1 K2
  have hlk := like_rd xs
  have v1 := rdT_vals xs h.i
  have v2 := rdT_vals (upL xs) hu256
  rw [hul] at v2
  generalize rdT xs = O at *
  generalize rdT (upL xs) = U at *
  unfold RdV at K1 K2
  obtain ⟨T, hT⟩ : ∃ T, O.getD tg0 = T := ⟨_, rfl⟩
  obtain ⟨V, hV⟩ : ∃ T, U.getD tg0 = T := ⟨_, rfl⟩
  obtain ⟨ok, hok⟩ : ∃ b, O.isSome = b := ⟨_, rfl⟩
  rw [hT, hok] at K1
  rw [hV, ← hlk.1, hok] at K2
  rw [hT] at v1
  rw [hV] at v2
  have hlt := hlk.2
  rw [hT, hV] at hlt
  obtain ⟨TL, hTL⟩ : ∃ n, T.attrs.length = n := ⟨_, rfl⟩
  obtain ⟨NB, hNB⟩ : ∃ S : ByteArray, ⟨(u8s T.name).toArray⟩ = S := ⟨_, rfl⟩
  rw [← hlt.kind, ← hlt.size, ← hlt.name, ← hlt.single, ← hlt.closed, ← hlt.l0.1, hTL, hNB] at K2
  rw [hTL, hNB] at K1
  have hlL := hlt.l0
  have h256 : ∀ x ∈ [] ++ xs, x < 256 := fun x hx => h.i x (by simpa using hx)
  obtain ⟨N, hN⟩ : ∃ N, xs.length = N := ⟨_, rfl⟩
  rw [hN] at hl hlen K1 K2 v1 v2 ⊢
  have i1 : ¬ (200 : Int) < (N : Int) := by omega
  have HA := Lib.hid (And.intro hAw (And.intro K1 (And.intro K2 (And.intro h (And.intro hN h256)))))
  have HV := Lib.hid (And.intro v1 (And.intro v2 (And.intro hlL (And.intro hTL hu256))))
  have hN200 : N ≤ 200 := by omega
  have HN := Lib.hid hN200
  clear h hN hl hm K1 K2 hT hV hok hlk hAw v1 v2 hlt hlL hTL hNB h256 hul hu256 hN200
  generalize (T.kind : Int) = k1 at *
  generalize (T.size : Int) = k2 at *
  generalize T.single = k3 at *
  generalize T.closed = k4 at *
  go_enter Try.func7, Try.ntmps7
  go_wp2_with fail
  refine HA.out.1.mono ?_
  rintro r w1 ⟨rfl, hb1⟩
  have o3 := ownB_lit0 w1
  have b4 := below_lit hb1 (.cells #[] 5)
  have B4 : BY (w1.alloc (.cells #[] 5)) (w1.alloc (.cells #[] 5)).heap.size xs A cap := HA.out.2.2.2.1.on b4
  have H3 := Lib.hid (And.intro hb1 (And.intro o3 (And.intro b4 B4)))
  clear o3 b4 B4 hb1
  go_wp2_with (first
    | (at_builtin
       refine wpList_appBs rfl (.tmp 18) (.tmp 19) rfl w1.heap.size _ [] xs rfl H3.out.2.1 A N cap HA.out.2.2.2.2.1 rfl H3.out.2.2.2 (by have := HN.out; simp; omega) (by simp) ?_)
    | fail)
  intro v4 w4 o4 hb4
  obtain ⟨A5, c5, rfl, B5, R5⟩ := o4.rw HA.out.2.2.2.2.2
  have hl5 : xs.length = N := HA.out.2.2.2.2.1
  have hl6 : ([] ++ xs).length = N := hl5
  first | rw [hl5] | rw [hl6]
  try simp only [List.nil_append] at B5 R5
  have b5 : Below w1.heap.size w1 w4 := (below_new w1 _).trans (hb4.mono (by simp))
  have bw4 : Below w.heap.size w w4 := H3.out.1.trans (b5.mono H3.out.1.size)
  have R5' : 0 < N → ∃ g, A5 = some ⟨g, 0, none⟩ ∧ w.heap.size ≤ g ∧ RowW w4 g (mixU 0 xs) c5 := fun hp => by
    obtain ⟨g, h1, h2, h3⟩ := R5 (by rintro rfl; have := HA.out.2.2.2.2.1; simp at this; omega)
    exact ⟨g, h1, Nat.le_trans H3.out.1.size h2, by rw [mixU_zero]; exact h3⟩
  have H4 := Lib.hid (And.intro B5 (And.intro bw4 R5'))
  clear o4 hb4 B5 R5 b5 bw4 R5' hl5 hl6
  go_wp2_with fail
  go_loopw [4] (fun i wr => ∃ k : Nat, i = .int .i64 (k : Int) ∧ k ≤ N ∧ (0 < N → ∃ g, A5 = some ⟨g, 0, none⟩ ∧ w.heap.size ≤ g ∧ RowW wr g (mixU k xs) c5) ∧ Below w.heap.size w wr) (fun i _ => N - (RowKit.intOf i).toNat)
  case atStart => exact ⟨0, by go_num, by omega, H4.out.2.2, H4.out.2.1⟩
  case round =>
    obtain ⟨k, rfl, hk, hR, hb⟩ := hrel
    by_cases hlt : k < N
    case pos =>
      have i2 : (k : Int) < (N : Int) := by omega
      obtain ⟨g, rfl, hg, hW⟩ := hR (by omega)
      obtain ⟨x, hx⟩ := at_lt (l := xs) (k := k) (by rw [HA.out.2.2.2.2.1]; exact hlt)
      have hx256 := HA.out.2.2.2.1.lt hx
      have hf := hW.froz (i := k)
      obtain ⟨b', o', e', _, d0⟩ := hW.by.at (mixU_at hx)
      obtain ⟨rfl, rfl⟩ : g = b' ∧ 0 = o' := by simpa using e'
      rw [Nat.zero_add] at d0
      have hset := hW.set k (upN x) (upN_lt hx256)
      rw [← mixU_next hx] at hset
      have hsame := mixU_same hx
      have hgl := hW.lt
      have hle := hW.mx
      unfold maxLen at hle
      have hlc : N ≤ c5 := by have := H4.out.1.l; rw [HA.out.2.2.2.2.1] at this; exact this
      have hgb := hb.setc hg k (.int .u8 ((upN x : Nat) : Int))
      by_cases c1 : 97 ≤ x
      · by_cases c2 : x ≤ 122
        · have hup : ((upN x : Nat) : Int) = (x : Int) - 32 := by unfold upN; rw [if_pos ⟨c1, c2⟩]; omega
          rw [hup] at hset hgb
          have d1 : decide (97 ≤ (x : Int)) = true := by simp; omega
          have d2 : decide ((x : Int) ≤ 122) = true := by simp; omega
          have e1 : IntKind.u8.wrap ((x : Int) - 32) = (x : Int) - 32 := IntWalk.u8_in _ (by omega)
          have HE := Lib.hid (And.intro hset (And.intro hgb hg))
          clear hset hgb hup hsame hb hR hW hg e' c1 c2 hx256 hx
          generalize (x : Int) = X at *
          go_wp2_with fail
          go_roundw
          case rel => exact ⟨k + 1, by go_num, by omega, fun _ => ⟨g, rfl, HE.out.2.2, HE.out.1⟩, HE.out.2.1⟩
          case measure => simp [RowKit.intOf]; omega
        · have d1 : decide (97 ≤ (x : Int)) = true := by simp; omega
          have d2 : decide ((x : Int) ≤ 122) = false := by simp; omega
          have hs := hsame (by unfold upN; rw [if_neg (by omega)])
          rw [← hs] at hW
          have HE := Lib.hid (And.intro hW (And.intro hb hg))
          clear hset hgb hsame hb hR hW hg e' c1 c2 hx256 hx hs
          generalize (x : Int) = X at *
          go_wp2_with fail
          go_roundw
          case rel => exact ⟨k + 1, by go_num, by omega, fun _ => ⟨g, rfl, HE.out.2.2, HE.out.1⟩, HE.out.2.1⟩
          case measure => simp [RowKit.intOf]; omega
      · have d1 : decide (97 ≤ (x : Int)) = false := by simp; omega
        have hs := hsame (by unfold upN; rw [if_neg (by omega)])
        rw [← hs] at hW
        have HE := Lib.hid (And.intro hW (And.intro hb hg))
        clear hset hgb hsame hb hR hW hg e' c1 hx256 hx hs
        generalize (x : Int) = X at *
        go_wp2_with fail
        go_roundw
        case rel => exact ⟨k + 1, by go_num, by omega, fun _ => ⟨g, rfl, HE.out.2.2, HE.out.1⟩, HE.out.2.1⟩
        case measure => simp [RowKit.intOf]; omega
    case neg =>
      obtain rfl : k = N := by omega
      have B6 : BY wr wr.heap.size (upL xs) A5 c5 := by
        by_cases h0 : 0 < k
        · obtain ⟨g, rfl, hg, hW⟩ := hR h0
          have e : mixU k xs = upL xs := by rw [← HA.out.2.2.2.2.1]; exact mixU_all xs
          rw [e] at hW
          exact hW.by
        · have e : xs = [] := List.eq_nil_of_length_eq_zero (by rw [HA.out.2.2.2.2.1]; omega)
          have hB := H4.out.1
          rw [e] at hB ⊢
          exact ⟨hB.l, hB.m, hB.z, fun x hx => by simp [upL] at hx, fun hn => absurd rfl hn⟩
      have HB := Lib.hid (And.intro hb B6)
      clear hR hb B6
      go_wp2_with fail
      refine (HA.out.2.1 _ HB.out.1).mono ?_
      rintro r w2 ⟨A1, c1, rfl, ha1, hb2⟩
      have HB2 := Lib.hid (And.intro (HB.out.1.trans (hb2.mono HB.out.1.size)) (And.intro ha1 (HB.out.2.on hb2)))
      clear hb2 ha1
      obtain ⟨W3, hW3⟩ : ∃ W, w2.alloc (.cells #[.int .i64 k1, .int .i64 k2, .string NB, .slice A1 TL c1, .bool k3, .bool k4] 26) = W := ⟨_, rfl⟩
      have b23 : Below w2.heap.size w2 W3 := by rw [← hW3]; exact below_new _ _
      have x1 : Cells W3 w2.heap.size 26 #[.int .i64 k1, .int .i64 k2, .string NB, .slice A1 TL c1, .bool k3, .bool k4] := by rw [← hW3]; exact cells_new _ _ _
      have b3 : Below w.heap.size w W3 := by rw [← hW3]; exact below_lit HB2.out.1 _
      have H5 := Lib.hid (And.intro x1 (And.intro b3 (And.intro (HB2.out.2.1.on b23) (HB2.out.2.2.on b23))))
      clear x1 b3 b23
      go_wp2_with fail
      refine (HA.out.2.2.1 _ _ _ H5.out.2.1 H5.out.2.2.2).mono ?_
      rintro r w4' ⟨A2, c2, rfl, ha2, hb4⟩
      clear hW3
      have b4 : Below w.heap.size w w4' := H5.out.2.1.trans (hb4.mono H5.out.2.1.size)
      obtain ⟨W5, hW5⟩ : ∃ W, w4'.alloc (.cells #[.int .i64 k1, .int .i64 k2, .string NB, .slice A2 TL c2, .bool k3, .bool k4] 26) = W := ⟨_, rfl⟩
      have b45 : Below w4'.heap.size w4' W5 := by rw [← hW5]; exact below_new _ _
      have x2 : Cells W5 w4'.heap.size 26 #[.int .i64 k1, .int .i64 k2, .string NB, .slice A2 TL c2, .bool k3, .bool k4] := by rw [← hW5]; exact cells_new _ _ _
      have x1 : Cells W5 w2.heap.size 26 #[.int .i64 k1, .int .i64 k2, .string NB, .slice A1 TL c1, .bool k3, .bool k4] := (H5.out.1.on hb4).on b45
      have a1 := (H5.out.2.2.1.on hb4).on b45
      have a2 := ha2.on b45
      have p0 := x1.cell 0
      have p1 := x1.cell 1
      have p2 := x1.cell 2
      have p3 := x1.cell 3
      have p4 := x1.cell 4
      have p5 := x1.cell 5
      have q0 := x2.cell 0
      have q1 := x2.cell 1
      have q2 := x2.cell 2
      have q3 := x2.cell 3
      have q4 := x2.cell 4
      have q5 := x2.cell 5
      simp at p0 p1 p2 p3 p4 p5 q0 q1 q2 q3 q4 q5
      have hTLm : TL ≤ 9223372036854775807 := by have := a1.le; have h2 := a1.mx; unfold maxLen at h2; rw [HV.out.2.2.2.1] at this; omega
      have HX := Lib.hid (And.intro x1 (And.intro x2 (And.intro a1 (And.intro a2 (b4.trans (b45.mono b4.size))))))
      clear x1 x2 a1 a2 ha2 hb4 b4 b45
      go_wp2_with fail
      clear hW5 p0 p1 p2 p3 p4 p5 q0 q1 q2 q3 q4 q5
      go_loopw [9] (fun i wr => ∃ j : Nat, i = .int .i64 (j : Int) ∧ j ≤ TL ∧ Below W5.heap.size W5 wr) (fun i _ => TL - (RowKit.intOf i).toNat)
      case atStart => exact ⟨0, by go_num, by omega, Below.refl _ _⟩
      case round =>
        obtain ⟨j, rfl, hj, hbr⟩ := hrel
        have y1 := HX.out.1.on hbr
        have y2 := HX.out.2.1.on hbr
        have p3 := y1.cell 3
        have q3 := y2.cell 3
        simp at p3 q3
        have hz1 := y1.lt
        have hz2 := y2.lt
        have hbw := HX.out.2.2.2.2.trans (hbr.mono HX.out.2.2.2.2.size)
        have HY := Lib.hid (And.intro hbw (And.intro hbr (And.intro (HX.out.2.2.1.on hbr) (HX.out.2.2.2.1.on hbr))))
        clear hbw hbr y1 y2
        by_cases hlj : j < TL
        case neg =>
          obtain rfl : j = TL := by omega
          have i7 : ¬ (j : Int) < (j : Int) := by omega
          go_wp2_with fail
          go_ret
          exact ⟨rfl, HY.out.1⟩
        case pos =>
          have i7 : (j : Int) < (TL : Int) := by omega
          obtain ⟨a, ha⟩ := at_lt (l := T.attrs) (k := j) (by rw [HV.out.2.2.2.1]; exact hlj)
          obtain ⟨a', ha'⟩ := at_lt (l := V.attrs) (k := j) (by rw [← HV.out.2.2.1.1, HV.out.2.2.2.1]; exact hlj)
          obtain ⟨ba, oa, rfl, _, ca1, ca2⟩ := HY.out.2.2.1.r j a ha
          obtain ⟨bb, ob, rfl, _, cb1, cb2⟩ := HY.out.2.2.2.r j a' ha'
          obtain ⟨hn, hv⟩ := HV.out.2.2.1.2 j a a' ha ha'
          have m1 := HV.out.1 a (List.mem_of_getElem? ha)
          have m2 := HV.out.2.1 a' (List.mem_of_getElem? ha')
          have L1 := fun W => lower_any a.2 m1.1 (by have := HN.out; have := m1.2; omega) W
          have L2 := fun W => lower_any a'.2 m2.1 (by have := HN.out; have := m2.2; omega) W
          rw [← hv] at L2
          rw [← hn] at cb1
          unfold strV at L1 L2
          generalize (⟨(u8s a.1).toArray⟩ : ByteArray) = S1 at *
          generalize (⟨(u8s (lowL a.2)).toArray⟩ : ByteArray) = S2 at *
          generalize (⟨(u8s a.2).toArray⟩ : ByteArray) = S3 at *
          generalize (⟨(u8s a'.2).toArray⟩ : ByteArray) = S4 at *
          rw [← Nat.add_assoc] at ca2 cb2
          have M1 : ∀ d os, Calls Try.prog 15 #[.string S3] (grow (redrawn wr d) os) fun e w'' => e = .returned (.string S2) ∧ ∃ p : Regrown, w'' = grow (redrawn wr p.d) p.os := fun d os => Calls.regrown_of (L1 _)
          have M2 : ∀ d os, Calls Try.prog 15 #[.string S4] (grow (redrawn wr d) os) fun e w'' => e = .returned (.string S2) ∧ ∃ p : Regrown, w'' = grow (redrawn wr p.d) p.os := fun d os => Calls.regrown_of (L2 _)
          have r1 := cell_regrown p3
          have r2 := cell_regrown q3
          have r3 := cell_regrown ca1
          have r4 := cell_regrown ca2
          have r5 := cell_regrown cb1
          have r6 := cell_regrown cb2
          clear ha ha' hn hv m1 m2 L1 L2 ca1 ca2 cb1 cb2
          go_wp2_with fail
          refine wp_region_quiet_below (by kernel_rfl) (by kernel_rfl) ?_
          repeat (go_big_quiet_step (first | with_reducible exact M1 _ _ | with_reducible exact M2 _ _))
          refine wpQuiet_nil ?_
          intro _ hw'
          obtain ⟨⟨dq, osq⟩, hw''⟩ := hw'
          subst hw''
          have HZ := Lib.hid (HY.out.2.1.trans ((below_regrown wr dq osq).mono HY.out.2.1.size))
          clear r1 r2 r3 r4 r5 r6 M1 M2 p3 q3
          go_wp2_with fail
          go_roundw
          case rel => exact ⟨j + 1, by go_num, by omega, HZ.out⟩
          case measure => simp [RowKit.intOf]; omega
end Go.Proofs.Ytplnkmojkdbbnaa
