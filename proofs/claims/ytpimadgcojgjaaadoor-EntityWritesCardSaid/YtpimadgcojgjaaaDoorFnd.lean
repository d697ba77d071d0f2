/-
  Contracts: slices.IndexFunc over the names, entity.find, for each of the three functions that are asked.
-/
import Derived.Test.YtpimadgcojgjaaaDoorEnm
namespace Go.Proofs.YtpimadgcojgjaaaDoor
open Go.RowKit Go.Shelf Go.Lib Go.Maps Go.Great

theorem flat_at : ∀ (l : List NmE) (k : Nat) (x : NmE), l[k]? = some x → (l.flatMap ncell)[k * 2]? = some (.string ⟨x.1.toArray⟩) ∧ (l.flatMap ncell)[k * 2 + 1]? = some (.int .i32 x.2)
  | [], k, x, h => by simp at h
  | y :: l, 0, x, h => by
    simp at h
    subst h
    exact ⟨rfl, rfl⟩
  | y :: l, k + 1, x, h => by
    have := flat_at l k x (by simpa using h)
    rw [List.flatMap_cons]
    have e1 : (k + 1) * 2 = k * 2 + 1 + 1 := by omega
    rw [e1]
    exact this
theorem NR_at {k : Nat} {x : NmE} (h : nmE[k]? = some x) : NR[k * 2]? = some (.string ⟨x.1.toArray⟩) ∧ NR[k * 2 + 1]? = some (.int .i32 x.2) := by
  have := flat_at nmE k x h
  unfold NR
  simpa using this
attribute [local irreducible] NR ZNR FR
/-- Which one is the first that is asked for. -/
def idxP (p : NmE → Bool) : Int := match nmE.findIdx? p with
  | none => -1
  | some i => (i : Int)
theorem nmE_len : nmE.length = 26 := rfl
theorem idx_none {p : NmE → Bool} (h : ∀ (j : Nat) (x : NmE), nmE[j]? = some x → p x = false) : idxP p = -1 ∧ nmE.find? p = none := by
  have h1 : ∀ x ∈ nmE, p x = false := fun x hx => by
    obtain ⟨j, hj, e⟩ := List.getElem_of_mem hx
    exact h j x (by rw [List.getElem?_eq_getElem hj, e])
  have e1 : nmE.findIdx? p = none := by rw [List.findIdx?_eq_none_iff]; exact h1
  refine ⟨by rw [idxP, e1], ?_⟩
  rw [List.find?_eq_none]
  exact fun x hx => by rw [h1 x hx]; simp
theorem idx_some {p : NmE → Bool} {k : Nat} {x : NmE} (hx : nmE[k]? = some x) (hp : p x = true) (h : ∀ (j : Nat) (y : NmE), j < k → nmE[j]? = some y → p y = false) : idxP p = (k : Int) ∧ nmE.find? p = some x := by
  obtain ⟨hk, e⟩ := List.getElem?_eq_some_iff.1 hx
  have e1 : nmE.findIdx? p = some k := by
    rw [List.findIdx?_eq_some_iff_getElem]
    exact ⟨hk, by rw [e]; exact hp, fun j hj => by
      rw [h j _ hj (List.getElem?_eq_getElem _)]
      simp⟩
  refine ⟨by rw [idxP, e1], ?_⟩
  rw [List.find?_eq_some_iff_getElem]
  exact ⟨hp, k, hk, e, fun j hj => by
    rw [h j _ hj (List.getElem?_eq_getElem _)]
    simp⟩
theorem idx_or (p : NmE → Bool) : (idxP p = -1 ∧ nmE.find? p = none) ∨ ∃ (k : Nat) (x : NmE), k < 26 ∧ nmE[k]? = some x ∧ idxP p = (k : Int) ∧ nmE.find? p = some x := by
  cases e : nmE.findIdx? p with
  | none =>
    left
    rw [List.findIdx?_eq_none_iff] at e
    exact idx_none fun j x hx => e x (List.mem_of_getElem? hx)
  | some k =>
    right
    rw [List.findIdx?_eq_some_iff_getElem] at e
    obtain ⟨hk, hp, h⟩ := e
    have hs := idx_some (p := p) (List.getElem?_eq_getElem hk) hp (fun j y hj hy => by
      have := h j hj
      obtain ⟨hj2, e2⟩ := List.getElem?_eq_some_iff.1 hy
      rw [e2] at this
      simpa using this)
    exact ⟨k, _, hk, List.getElem?_eq_getElem hk, hs.1, hs.2⟩
/-- What find answers. -/
def rowV (x : NmE) : Value := .agg #[.string ⟨x.1.toArray⟩, .int .i32 x.2]
def findV : Option NmE → Value
  | none => .tuple #[.agg #[.string ⟨#[]⟩, .int .i32 0], .bool false]
  | some x => .tuple #[rowV x, .bool true]

set_option maxHeartbeats 4000000 in
set_option maxRecDepth 100000 in
theorem idx44_any (c0 : Addr) (p : NmE → Bool) (g : Nat) (w : World) (hR : Cells w g 76 NR) (K : ∀ W, Below w.heap.size w W → ∀ s z, (s, z) ∈ nmE → Calls Tryd.prog 44 #[.agg #[.string ⟨s.toArray⟩, .int .i32 z], .pointer (some c0)] W fun e w' => e = .returned (.bool (p (s, z))) ∧ Below W.heap.size W w') :
    Calls Tryd.prog 56 #[.slice (some ⟨g, 0, none⟩) 26 26, .func (Fn.func 44) #[] #[.pointer (some c0)]] w fun e w' => e = .returned (.int .i64 (idxP p)) ∧ Below w.heap.size w w' := by
  have HH := Lib.hid (And.intro hR K)
  clear hR K
  go_enter Tryd.func56, Tryd.ntmps56
  go_wp2_with fail
  go_loopw [5, 8] (fun _ i wr => ∃ k : Nat, i = .int .i64 (k : Int) ∧ k ≤ 26 ∧ (∀ (j : Nat) (y : NmE), j < k → nmE[j]? = some y → p y = false) ∧ Below w.heap.size w wr) (fun _ i _ => 26 - (RowKit.intOf i).toNat)
  case atStart => exact ⟨0, by go_num, by omega, fun j y hj => absurd hj (by omega), Below.refl _ _⟩
  case round =>
    obtain ⟨k, rfl, hk, hj, hb⟩ := hrel
    by_cases hlt : k < 26
    case neg =>
      obtain rfl : k = 26 := by omega
      have he := (idx_none (p := p) fun j x hx => hj j x (by have := (List.getElem?_eq_some_iff.1 hx).1; rw [nmE_len] at this; exact this) hx).1
      have HE := Lib.hid (And.intro he hb)
      clear he hj hb
      go_wp2_with fail
      go_ret
      exact ⟨by rw [HE.out.1]; rfl, HE.out.2⟩
    have i1 : (k : Int) < 26 := by omega
    obtain ⟨⟨s, z⟩, hx⟩ := at_lt (l := nmE) (k := k) (by rw [nmE_len]; exact hlt)
    obtain ⟨r0, r1⟩ := NR_at hx
    have xr := (hb.block g HH.out.1.lt).trans HH.out.1
    have q0 : wr.cell? ⟨g, k * 2, none⟩ = some (.string ⟨s.toArray⟩) := (Cells.cell xr (k * 2)).trans r0
    have q1 : wr.cell? ⟨g, k * 2 + 1, none⟩ = some (.int .i32 z) := (Cells.cell xr (k * 2 + 1)).trans r1
    have C := HH.out.2 wr hb s z (List.mem_of_getElem? hx)
    have HK := Lib.hid (And.intro C (And.intro hb (And.intro hj hx)))
    clear C hb hj hx xr r0 r1
    go_wp2_with fail
    refine HK.out.1.mono ?_
    rintro r w2 ⟨rfl, hb2⟩
    have b2 := HK.out.2.1.trans (hb2.mono HK.out.2.1.size)
    cases hp : p (s, z) with
    | true =>
      have he := (idx_some (p := p) HK.out.2.2.2 hp HK.out.2.2.1).1
      have HE := Lib.hid (And.intro he b2)
      clear hp he b2 hb2 q0 q1
      go_wp2_with fail
      go_ret
      exact ⟨by rw [HE.out.1]; rfl, HE.out.2⟩
    | false =>
      have hend : ∀ (j : Nat) (y : NmE), j < k + 1 → nmE[j]? = some y → p y = false := fun j y hj hy => by
        by_cases h : j = k
        · subst h
          have := hy.symm.trans HK.out.2.2.2
          injection this with this
          rw [this]
          exact hp
        · exact HK.out.2.2.1 j y (by omega) hy
      have HE := Lib.hid (And.intro hend b2)
      clear hp hend b2 hb2 q0 q1
      go_wp2_with fail
      go_roundw
      case rel => exact ⟨k + 1, by go_num, by omega, HE.out.1, HE.out.2⟩
      case measure => simp [RowKit.intOf]; omega
set_option maxHeartbeats 4000000 in
set_option maxRecDepth 100000 in
theorem find44_any (c0 : Addr) (p : NmE → Bool) (w : World) (K : ∀ W, Below w.heap.size w W → ∀ s z, (s, z) ∈ nmE → Calls Tryd.prog 44 #[.agg #[.string ⟨s.toArray⟩, .int .i32 z], .pointer (some c0)] W fun e w' => e = .returned (.bool (p (s, z))) ∧ Below W.heap.size W w') :
    Calls Tryd.prog 39 #[.func (Fn.func 44) #[] #[.pointer (some c0)]] w fun e w' => e = .returned (findV (nmE.find? p)) ∧ Below w.heap.size w w' := by
  have HK := Lib.hid K
  obtain ⟨FV, hFV⟩ : ∃ v, findV (nmE.find? p) = v := ⟨_, rfl⟩
  rw [hFV]
  have HF := Lib.hid hFV
  clear K hFV
  go_enter Tryd.func39, Tryd.ntmps39
  go_wp2_with fail
  refine (rows_any _).mono ?_
  rintro r w1 ⟨rfl, hb1⟩
  rename_i Qx Kx ax Ky ay
  dsimp only
  refine ay _ _ ?_
  refine wpList_allocTo rfl (some 4) rfl (.pointer (some ⟨w1.heap.size, 0, none⟩)) (.cells ZNR 76) (by as_aux_lemma => kernel_rfl) ?_
  have hz := heap_alloc_new w1 (.cells ZNR 76)
  refine wpList_store_row rfl 76 (.tmp 4) (.tmp 6) rfl w1.heap.size NR rfl rfl 76 ZNR hz (by as_aux_lemma => kernel_rfl) (by as_aux_lemma => kernel_rfl) (by as_aux_lemma => kernel_rfl) ?_
  apply wpList_nil
  obtain ⟨W2, hW2⟩ : ∃ W, (w1.alloc (.cells ZNR 76)).setRow w1.heap.size NR = W := ⟨_, rfl⟩
  rw [hW2]
  have x2 : Cells W2 w1.heap.size 76 NR := by rw [← hW2]; exact setRow_heap _ _ _ _ _ _ hz
  have b12 : Below w1.heap.size w1 W2 := by rw [← hW2]; exact below_setRow (below_new w1 _) (Nat.le_refl _) _
  have b1 := hb1
  have x0 : Cells W2 w.heap.size 70 #[.string ⟨#[]⟩, .int .i32 0] := ((cells_new w #[.string ⟨#[]⟩, .int .i32 0] 70).on hb1).on b12
  have b2 : Below w.heap.size w W2 := ((below_new w _).trans (hb1.mono (by simp))).trans (b12.mono (by have := hb1.size; simp at this; omega))
  have C := idx44_any c0 p w1.heap.size W2 x2 (fun W hb s z hm => HK.out W (b2.trans (hb.mono b2.size)) s z hm)
  have H2 := Lib.hid (And.intro C (And.intro x2 (And.intro x0 b2)))
  clear hW2 hz ay Ky C x2 x0 b2 b12 hb1 b1
  go_wp2_with fail
  refine H2.out.1.mono ?_
  rintro r w3 ⟨rfl, hb3⟩
  have x0 := H2.out.2.2.1.on hb3
  have x2 := H2.out.2.1.on hb3
  have b3 := H2.out.2.2.2.trans (hb3.mono H2.out.2.2.2.size)
  have p0 := x0.cell 0
  have p1 := x0.cell 1
  have f0 := x0.froz 0
  have f1 := x0.froz 1
  simp at p0 p1
  obtain ⟨h1, h2⟩ | ⟨k, ⟨s, z⟩, hk, hx, h1, h2⟩ := idx_or p
  · rw [h1]
    have HB := Lib.hid b3
    have HV := Lib.hid (show FV = findV none by rw [← HF.out, h2])
    clear b3 x2 x0 hb3 h1 h2
    go_wp2_with fail
    refine bodyPost_ret (v := .tuple #[.agg #[.string ⟨#[]⟩, .int .i32 0], .bool false]) ?_ rfl ⟨by rw [HV.out]; rfl, ?_⟩
    · simp [results, Tryd.results39, go_sem, p0, p1]
    · exact (HB.out.setCell (p := ⟨_, 0, none⟩) (Nat.le_refl _) _).setCell (p := ⟨_, 1, none⟩) (Nat.le_refl _) _
  · rw [h1]
    have HV := Lib.hid (show FV = findV (some (s, z)) by rw [← HF.out, h2])
    obtain ⟨r0, r1⟩ := NR_at hx
    have q0 : w3.cell? ⟨w1.heap.size, k * 2, none⟩ = some (.string ⟨s.toArray⟩) := (Cells.cell x2 (k * 2)).trans r0
    have q1 : w3.cell? ⟨w1.heap.size, k * 2 + 1, none⟩ = some (.int .i32 z) := (Cells.cell x2 (k * 2 + 1)).trans r1
    have i1 : (k : Int) < 26 := by omega
    have i0 : decide ((k : Int) < 0) = false := by simp
    have HB := Lib.hid b3
    clear b3 x2 x0 hb3 h1 h2 hx r0 r1
    go_wp2_with fail
    refine bodyPost_ret (v := .tuple #[.agg #[.string ⟨s.toArray⟩, .int .i32 z], .bool true]) ?_ rfl ⟨by rw [HV.out]; rfl, ?_⟩
    · simp [results, Tryd.results39, go_sem, p0, p1]
    · exact (HB.out.setCell (p := ⟨_, 0, none⟩) (Nat.le_refl _) _).setCell (p := ⟨_, 1, none⟩) (Nat.le_refl _) _

set_option maxHeartbeats 4000000 in
set_option maxRecDepth 100000 in
theorem idx40_any (c0 : Addr) (p : NmE → Bool) (g : Nat) (w : World) (hR : Cells w g 76 NR) (K : ∀ W, Below w.heap.size w W → ∀ s z, (s, z) ∈ nmE → Calls Tryd.prog 40 #[.agg #[.string ⟨s.toArray⟩, .int .i32 z], .pointer (some c0)] W fun e w' => e = .returned (.bool (p (s, z))) ∧ Below W.heap.size W w') :
    Calls Tryd.prog 56 #[.slice (some ⟨g, 0, none⟩) 26 26, .func (Fn.func 40) #[] #[.pointer (some c0)]] w fun e w' => e = .returned (.int .i64 (idxP p)) ∧ Below w.heap.size w w' := by
  have HH := Lib.hid (And.intro hR K)
  clear hR K
  go_enter Tryd.func56, Tryd.ntmps56
  go_wp2_with fail
  go_loopw [5, 8] (fun _ i wr => ∃ k : Nat, i = .int .i64 (k : Int) ∧ k ≤ 26 ∧ (∀ (j : Nat) (y : NmE), j < k → nmE[j]? = some y → p y = false) ∧ Below w.heap.size w wr) (fun _ i _ => 26 - (RowKit.intOf i).toNat)
  case atStart => exact ⟨0, by go_num, by omega, fun j y hj => absurd hj (by omega), Below.refl _ _⟩
  case round =>
    obtain ⟨k, rfl, hk, hj, hb⟩ := hrel
    by_cases hlt : k < 26
    case neg =>
      obtain rfl : k = 26 := by omega
      have he := (idx_none (p := p) fun j x hx => hj j x (by have := (List.getElem?_eq_some_iff.1 hx).1; rw [nmE_len] at this; exact this) hx).1
      have HE := Lib.hid (And.intro he hb)
      clear he hj hb
      go_wp2_with fail
      go_ret
      exact ⟨by rw [HE.out.1]; rfl, HE.out.2⟩
    have i1 : (k : Int) < 26 := by omega
    obtain ⟨⟨s, z⟩, hx⟩ := at_lt (l := nmE) (k := k) (by rw [nmE_len]; exact hlt)
    obtain ⟨r0, r1⟩ := NR_at hx
    have xr := (hb.block g HH.out.1.lt).trans HH.out.1
    have q0 : wr.cell? ⟨g, k * 2, none⟩ = some (.string ⟨s.toArray⟩) := (Cells.cell xr (k * 2)).trans r0
    have q1 : wr.cell? ⟨g, k * 2 + 1, none⟩ = some (.int .i32 z) := (Cells.cell xr (k * 2 + 1)).trans r1
    have C := HH.out.2 wr hb s z (List.mem_of_getElem? hx)
    have HK := Lib.hid (And.intro C (And.intro hb (And.intro hj hx)))
    clear C hb hj hx xr r0 r1
    go_wp2_with fail
    refine HK.out.1.mono ?_
    rintro r w2 ⟨rfl, hb2⟩
    have b2 := HK.out.2.1.trans (hb2.mono HK.out.2.1.size)
    cases hp : p (s, z) with
    | true =>
      have he := (idx_some (p := p) HK.out.2.2.2 hp HK.out.2.2.1).1
      have HE := Lib.hid (And.intro he b2)
      clear hp he b2 hb2 q0 q1
      go_wp2_with fail
      go_ret
      exact ⟨by rw [HE.out.1]; rfl, HE.out.2⟩
    | false =>
      have hend : ∀ (j : Nat) (y : NmE), j < k + 1 → nmE[j]? = some y → p y = false := fun j y hj hy => by
        by_cases h : j = k
        · subst h
          have := hy.symm.trans HK.out.2.2.2
          injection this with this
          rw [this]
          exact hp
        · exact HK.out.2.2.1 j y (by omega) hy
      have HE := Lib.hid (And.intro hend b2)
      clear hp hend b2 hb2 q0 q1
      go_wp2_with fail
      go_roundw
      case rel => exact ⟨k + 1, by go_num, by omega, HE.out.1, HE.out.2⟩
      case measure => simp [RowKit.intOf]; omega
set_option maxHeartbeats 4000000 in
set_option maxRecDepth 100000 in
theorem find40_any (c0 : Addr) (p : NmE → Bool) (w : World) (K : ∀ W, Below w.heap.size w W → ∀ s z, (s, z) ∈ nmE → Calls Tryd.prog 40 #[.agg #[.string ⟨s.toArray⟩, .int .i32 z], .pointer (some c0)] W fun e w' => e = .returned (.bool (p (s, z))) ∧ Below W.heap.size W w') :
    Calls Tryd.prog 39 #[.func (Fn.func 40) #[] #[.pointer (some c0)]] w fun e w' => e = .returned (findV (nmE.find? p)) ∧ Below w.heap.size w w' := by
  have HK := Lib.hid K
  obtain ⟨FV, hFV⟩ : ∃ v, findV (nmE.find? p) = v := ⟨_, rfl⟩
  rw [hFV]
  have HF := Lib.hid hFV
  clear K hFV
  go_enter Tryd.func39, Tryd.ntmps39
  go_wp2_with fail
  refine (rows_any _).mono ?_
  rintro r w1 ⟨rfl, hb1⟩
  rename_i Qx Kx ax Ky ay
  dsimp only
  refine ay _ _ ?_
  refine wpList_allocTo rfl (some 4) rfl (.pointer (some ⟨w1.heap.size, 0, none⟩)) (.cells ZNR 76) (by as_aux_lemma => kernel_rfl) ?_
  have hz := heap_alloc_new w1 (.cells ZNR 76)
  refine wpList_store_row rfl 76 (.tmp 4) (.tmp 6) rfl w1.heap.size NR rfl rfl 76 ZNR hz (by as_aux_lemma => kernel_rfl) (by as_aux_lemma => kernel_rfl) (by as_aux_lemma => kernel_rfl) ?_
  apply wpList_nil
  obtain ⟨W2, hW2⟩ : ∃ W, (w1.alloc (.cells ZNR 76)).setRow w1.heap.size NR = W := ⟨_, rfl⟩
  rw [hW2]
  have x2 : Cells W2 w1.heap.size 76 NR := by rw [← hW2]; exact setRow_heap _ _ _ _ _ _ hz
  have b12 : Below w1.heap.size w1 W2 := by rw [← hW2]; exact below_setRow (below_new w1 _) (Nat.le_refl _) _
  have b1 := hb1
  have x0 : Cells W2 w.heap.size 70 #[.string ⟨#[]⟩, .int .i32 0] := ((cells_new w #[.string ⟨#[]⟩, .int .i32 0] 70).on hb1).on b12
  have b2 : Below w.heap.size w W2 := ((below_new w _).trans (hb1.mono (by simp))).trans (b12.mono (by have := hb1.size; simp at this; omega))
  have C := idx40_any c0 p w1.heap.size W2 x2 (fun W hb s z hm => HK.out W (b2.trans (hb.mono b2.size)) s z hm)
  have H2 := Lib.hid (And.intro C (And.intro x2 (And.intro x0 b2)))
  clear hW2 hz ay Ky C x2 x0 b2 b12 hb1 b1
  go_wp2_with fail
  refine H2.out.1.mono ?_
  rintro r w3 ⟨rfl, hb3⟩
  have x0 := H2.out.2.2.1.on hb3
  have x2 := H2.out.2.1.on hb3
  have b3 := H2.out.2.2.2.trans (hb3.mono H2.out.2.2.2.size)
  have p0 := x0.cell 0
  have p1 := x0.cell 1
  have f0 := x0.froz 0
  have f1 := x0.froz 1
  simp at p0 p1
  obtain ⟨h1, h2⟩ | ⟨k, ⟨s, z⟩, hk, hx, h1, h2⟩ := idx_or p
  · rw [h1]
    have HB := Lib.hid b3
    have HV := Lib.hid (show FV = findV none by rw [← HF.out, h2])
    clear b3 x2 x0 hb3 h1 h2
    go_wp2_with fail
    refine bodyPost_ret (v := .tuple #[.agg #[.string ⟨#[]⟩, .int .i32 0], .bool false]) ?_ rfl ⟨by rw [HV.out]; rfl, ?_⟩
    · simp [results, Tryd.results39, go_sem, p0, p1]
    · exact (HB.out.setCell (p := ⟨_, 0, none⟩) (Nat.le_refl _) _).setCell (p := ⟨_, 1, none⟩) (Nat.le_refl _) _
  · rw [h1]
    have HV := Lib.hid (show FV = findV (some (s, z)) by rw [← HF.out, h2])
    obtain ⟨r0, r1⟩ := NR_at hx
    have q0 : w3.cell? ⟨w1.heap.size, k * 2, none⟩ = some (.string ⟨s.toArray⟩) := (Cells.cell x2 (k * 2)).trans r0
    have q1 : w3.cell? ⟨w1.heap.size, k * 2 + 1, none⟩ = some (.int .i32 z) := (Cells.cell x2 (k * 2 + 1)).trans r1
    have i1 : (k : Int) < 26 := by omega
    have i0 : decide ((k : Int) < 0) = false := by simp
    have HB := Lib.hid b3
    clear b3 x2 x0 hb3 h1 h2 hx r0 r1
    go_wp2_with fail
    refine bodyPost_ret (v := .tuple #[.agg #[.string ⟨s.toArray⟩, .int .i32 z], .bool true]) ?_ rfl ⟨by rw [HV.out]; rfl, ?_⟩
    · simp [results, Tryd.results39, go_sem, p0, p1]
    · exact (HB.out.setCell (p := ⟨_, 0, none⟩) (Nat.le_refl _) _).setCell (p := ⟨_, 1, none⟩) (Nat.le_refl _) _

set_option maxHeartbeats 4000000 in
set_option maxRecDepth 100000 in
theorem idx66_any (c0 c1 : Addr) (p : NmE → Bool) (g : Nat) (w : World) (hR : Cells w g 76 NR) (K : ∀ W, Below w.heap.size w W → ∀ s z, (s, z) ∈ nmE → Calls Tryd.prog 66 #[.agg #[.string ⟨s.toArray⟩, .int .i32 z], .pointer (some c0), .pointer (some c1)] W fun e w' => e = .returned (.bool (p (s, z))) ∧ Below W.heap.size W w') :
    Calls Tryd.prog 56 #[.slice (some ⟨g, 0, none⟩) 26 26, .func (Fn.func 66) #[] #[.pointer (some c0), .pointer (some c1)]] w fun e w' => e = .returned (.int .i64 (idxP p)) ∧ Below w.heap.size w w' := by
  have HH := Lib.hid (And.intro hR K)
  clear hR K
  go_enter Tryd.func56, Tryd.ntmps56
  go_wp2_with fail
  go_loopw [5, 8] (fun _ i wr => ∃ k : Nat, i = .int .i64 (k : Int) ∧ k ≤ 26 ∧ (∀ (j : Nat) (y : NmE), j < k → nmE[j]? = some y → p y = false) ∧ Below w.heap.size w wr) (fun _ i _ => 26 - (RowKit.intOf i).toNat)
  case atStart => exact ⟨0, by go_num, by omega, fun j y hj => absurd hj (by omega), Below.refl _ _⟩
  case round =>
    obtain ⟨k, rfl, hk, hj, hb⟩ := hrel
    by_cases hlt : k < 26
    case neg =>
      obtain rfl : k = 26 := by omega
      have he := (idx_none (p := p) fun j x hx => hj j x (by have := (List.getElem?_eq_some_iff.1 hx).1; rw [nmE_len] at this; exact this) hx).1
      have HE := Lib.hid (And.intro he hb)
      clear he hj hb
      go_wp2_with fail
      go_ret
      exact ⟨by rw [HE.out.1]; rfl, HE.out.2⟩
    have i1 : (k : Int) < 26 := by omega
    obtain ⟨⟨s, z⟩, hx⟩ := at_lt (l := nmE) (k := k) (by rw [nmE_len]; exact hlt)
    obtain ⟨r0, r1⟩ := NR_at hx
    have xr := (hb.block g HH.out.1.lt).trans HH.out.1
    have q0 : wr.cell? ⟨g, k * 2, none⟩ = some (.string ⟨s.toArray⟩) := (Cells.cell xr (k * 2)).trans r0
    have q1 : wr.cell? ⟨g, k * 2 + 1, none⟩ = some (.int .i32 z) := (Cells.cell xr (k * 2 + 1)).trans r1
    have C := HH.out.2 wr hb s z (List.mem_of_getElem? hx)
    have HK := Lib.hid (And.intro C (And.intro hb (And.intro hj hx)))
    clear C hb hj hx xr r0 r1
    go_wp2_with fail
    refine HK.out.1.mono ?_
    rintro r w2 ⟨rfl, hb2⟩
    have b2 := HK.out.2.1.trans (hb2.mono HK.out.2.1.size)
    cases hp : p (s, z) with
    | true =>
      have he := (idx_some (p := p) HK.out.2.2.2 hp HK.out.2.2.1).1
      have HE := Lib.hid (And.intro he b2)
      clear hp he b2 hb2 q0 q1
      go_wp2_with fail
      go_ret
      exact ⟨by rw [HE.out.1]; rfl, HE.out.2⟩
    | false =>
      have hend : ∀ (j : Nat) (y : NmE), j < k + 1 → nmE[j]? = some y → p y = false := fun j y hj hy => by
        by_cases h : j = k
        · subst h
          have := hy.symm.trans HK.out.2.2.2
          injection this with this
          rw [this]
          exact hp
        · exact HK.out.2.2.1 j y (by omega) hy
      have HE := Lib.hid (And.intro hend b2)
      clear hp hend b2 hb2 q0 q1
      go_wp2_with fail
      go_roundw
      case rel => exact ⟨k + 1, by go_num, by omega, HE.out.1, HE.out.2⟩
      case measure => simp [RowKit.intOf]; omega
set_option maxHeartbeats 4000000 in
set_option maxRecDepth 100000 in
theorem find66_any (c0 c1 : Addr) (p : NmE → Bool) (w : World) (K : ∀ W, Below w.heap.size w W → ∀ s z, (s, z) ∈ nmE → Calls Tryd.prog 66 #[.agg #[.string ⟨s.toArray⟩, .int .i32 z], .pointer (some c0), .pointer (some c1)] W fun e w' => e = .returned (.bool (p (s, z))) ∧ Below W.heap.size W w') :
    Calls Tryd.prog 39 #[.func (Fn.func 66) #[] #[.pointer (some c0), .pointer (some c1)]] w fun e w' => e = .returned (findV (nmE.find? p)) ∧ Below w.heap.size w w' := by
  have HK := Lib.hid K
  obtain ⟨FV, hFV⟩ : ∃ v, findV (nmE.find? p) = v := ⟨_, rfl⟩
  rw [hFV]
  have HF := Lib.hid hFV
  clear K hFV
  go_enter Tryd.func39, Tryd.ntmps39
  go_wp2_with fail
  refine (rows_any _).mono ?_
  rintro r w1 ⟨rfl, hb1⟩
  rename_i Qx Kx ax Ky ay
  dsimp only
  refine ay _ _ ?_
  refine wpList_allocTo rfl (some 4) rfl (.pointer (some ⟨w1.heap.size, 0, none⟩)) (.cells ZNR 76) (by as_aux_lemma => kernel_rfl) ?_
  have hz := heap_alloc_new w1 (.cells ZNR 76)
  refine wpList_store_row rfl 76 (.tmp 4) (.tmp 6) rfl w1.heap.size NR rfl rfl 76 ZNR hz (by as_aux_lemma => kernel_rfl) (by as_aux_lemma => kernel_rfl) (by as_aux_lemma => kernel_rfl) ?_
  apply wpList_nil
  obtain ⟨W2, hW2⟩ : ∃ W, (w1.alloc (.cells ZNR 76)).setRow w1.heap.size NR = W := ⟨_, rfl⟩
  rw [hW2]
  have x2 : Cells W2 w1.heap.size 76 NR := by rw [← hW2]; exact setRow_heap _ _ _ _ _ _ hz
  have b12 : Below w1.heap.size w1 W2 := by rw [← hW2]; exact below_setRow (below_new w1 _) (Nat.le_refl _) _
  have b1 := hb1
  have x0 : Cells W2 w.heap.size 70 #[.string ⟨#[]⟩, .int .i32 0] := ((cells_new w #[.string ⟨#[]⟩, .int .i32 0] 70).on hb1).on b12
  have b2 : Below w.heap.size w W2 := ((below_new w _).trans (hb1.mono (by simp))).trans (b12.mono (by have := hb1.size; simp at this; omega))
  have C := idx66_any c0 c1 p w1.heap.size W2 x2 (fun W hb s z hm => HK.out W (b2.trans (hb.mono b2.size)) s z hm)
  have H2 := Lib.hid (And.intro C (And.intro x2 (And.intro x0 b2)))
  clear hW2 hz ay Ky C x2 x0 b2 b12 hb1 b1
  go_wp2_with fail
  refine H2.out.1.mono ?_
  rintro r w3 ⟨rfl, hb3⟩
  have x0 := H2.out.2.2.1.on hb3
  have x2 := H2.out.2.1.on hb3
  have b3 := H2.out.2.2.2.trans (hb3.mono H2.out.2.2.2.size)
  have p0 := x0.cell 0
  have p1 := x0.cell 1
  have f0 := x0.froz 0
  have f1 := x0.froz 1
  simp at p0 p1
  obtain ⟨h1, h2⟩ | ⟨k, ⟨s, z⟩, hk, hx, h1, h2⟩ := idx_or p
  · rw [h1]
    have HB := Lib.hid b3
    have HV := Lib.hid (show FV = findV none by rw [← HF.out, h2])
    clear b3 x2 x0 hb3 h1 h2
    go_wp2_with fail
    refine bodyPost_ret (v := .tuple #[.agg #[.string ⟨#[]⟩, .int .i32 0], .bool false]) ?_ rfl ⟨by rw [HV.out]; rfl, ?_⟩
    · simp [results, Tryd.results39, go_sem, p0, p1]
    · exact (HB.out.setCell (p := ⟨_, 0, none⟩) (Nat.le_refl _) _).setCell (p := ⟨_, 1, none⟩) (Nat.le_refl _) _
  · rw [h1]
    have HV := Lib.hid (show FV = findV (some (s, z)) by rw [← HF.out, h2])
    obtain ⟨r0, r1⟩ := NR_at hx
    have q0 : w3.cell? ⟨w1.heap.size, k * 2, none⟩ = some (.string ⟨s.toArray⟩) := (Cells.cell x2 (k * 2)).trans r0
    have q1 : w3.cell? ⟨w1.heap.size, k * 2 + 1, none⟩ = some (.int .i32 z) := (Cells.cell x2 (k * 2 + 1)).trans r1
    have i1 : (k : Int) < 26 := by omega
    have i0 : decide ((k : Int) < 0) = false := by simp
    have HB := Lib.hid b3
    clear b3 x2 x0 hb3 h1 h2 hx r0 r1
    go_wp2_with fail
    refine bodyPost_ret (v := .tuple #[.agg #[.string ⟨s.toArray⟩, .int .i32 z], .bool true]) ?_ rfl ⟨by rw [HV.out]; rfl, ?_⟩
    · simp [results, Tryd.results39, go_sem, p0, p1]
    · exact (HB.out.setCell (p := ⟨_, 0, none⟩) (Nat.le_refl _) _).setCell (p := ⟨_, 1, none⟩) (Nat.le_refl _) _
end Go.Proofs.YtpimadgcojgjaaaDoor
