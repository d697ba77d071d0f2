/-
  What the rows of flat lean on, part i.
-/
import Derived.Test.YtfafhbgkmlmmdaaGreatDoorYqh
import Derived.Laws.IdiomStrings
import Derived.Shelf.Bytes.SlSmallAll
import Derived.ArgAppend
import Derived.Lib.UnsafeStr
import Derived.Test.YtfafhbgkmlmmdaaGreatDoorYqb
import Derived.IntWalk
import Derived.Test.YtfafhbgkmlmmdaaGreatDoorYqd
import Derived.Lib.ParseIntBCases
set_option maxRecDepth 100000
set_option maxHeartbeats 40000000
namespace Go.Proofs.YtfafhbgkmlmmdaaGreatDoor
open Go.RowKit Go.Shelf Go.Lib Go.Maps Go.Great
theorem flat_at : ∀ (l : List NmE) (k : Nat) (x : NmE), l[k]? = some x → (l.flatMap ncell)[k * 2]? = some (.string ⟨x.1.toArray⟩) ∧ (l.flatMap ncell)[k * 2 + 1]? = some (.int .i32 x.2)
 | [], k, x, h => by simp at h
 | y :: l, 0, x, h => by
  simp at h
  subst h
  exact ⟨rfl, rfl⟩
 | y :: l, k + 1, x, h => by
  have := flat_at l k x (by simpa using h)
  rw [List.flatMap_cons]
  have e1 : (k + 1) * 2 = k * 2 + 1 + 1 := by omega
  rw [e1]
  exact this
theorem NR_at {k : Nat} {x : NmE} (h : nmE[k]? = some x) : NR[k * 2]? = some (.string ⟨x.1.toArray⟩) ∧ NR[k * 2 + 1]? = some (.int .i32 x.2) := by
 have := flat_at nmE k x h
 unfold NR
 simpa using this
attribute [local irreducible] NR ZNR FR
def idxP (p : NmE → Bool) : Int := match nmE.findIdx? p with
 | none => -1
 | some i => (i : Int)
theorem nmE_len : nmE.length = 26 := rfl
theorem idx_none {p : NmE → Bool} (h : ∀ (j : Nat) (x : NmE), nmE[j]? = some x → p x = false) : idxP p = -1 ∧ nmE.find? p = none := by
 have h1 : ∀ x ∈ nmE, p x = false := fun x hx => by
  obtain ⟨j, hj, e⟩ := List.getElem_of_mem hx
  exact h j x (by rw [List.getElem?_eq_getElem hj, e])
 have e1 : nmE.findIdx? p = none := by rw [List.findIdx?_eq_none_iff]; exact h1
 refine ⟨by rw [idxP, e1], ?_⟩
 rw [List.find?_eq_none]
 exact fun x hx => by rw [h1 x hx]; simp
theorem idx_some {p : NmE → Bool} {k : Nat} {x : NmE} (hx : nmE[k]? = some x) (hp : p x = true) (h : ∀ (j : Nat) (y : NmE), j < k → nmE[j]? = some y → p y = false) : idxP p = (k : Int) ∧ nmE.find? p = some x := by
 obtain ⟨hk, e⟩ := List.getElem?_eq_some_iff.1 hx
 have e1 : nmE.findIdx? p = some k := by
  rw [List.findIdx?_eq_some_iff_getElem]
  exact ⟨hk, by rw [e]; exact hp, fun j hj => by
   rw [h j _ hj (List.getElem?_eq_getElem _)]
   simp⟩
 refine ⟨by rw [idxP, e1], ?_⟩
 rw [List.find?_eq_some_iff_getElem]
 exact ⟨hp, k, hk, e, fun j hj => by
  rw [h j _ hj (List.getElem?_eq_getElem _)]
  simp⟩
theorem idx_or (p : NmE → Bool) : (idxP p = -1 ∧ nmE.find? p = none) ∨ ∃ (k : Nat) (x : NmE), k < 26 ∧ nmE[k]? = some x ∧ idxP p = (k : Int) ∧ nmE.find? p = some x := by
 cases e : nmE.findIdx? p with
 | none =>
  left
  rw [List.findIdx?_eq_none_iff] at e
  exact idx_none fun j x hx => e x (List.mem_of_getElem? hx)
 | some k =>
  right
  rw [List.findIdx?_eq_some_iff_getElem] at e
  obtain ⟨hk, hp, h⟩ := e
  have hs := idx_some (p := p) (List.getElem?_eq_getElem hk) hp (fun j y hj hy => by
   have := h j hj
   obtain ⟨hj2, e2⟩ := List.getElem?_eq_some_iff.1 hy
   rw [e2] at this
   simpa using this)
  exact ⟨k, _, hk, List.getElem?_eq_getElem hk, hs.1, hs.2⟩
def rowV (x : NmE) : Value := .agg #[.string ⟨x.1.toArray⟩, .int .i32 x.2]
def findV : Option NmE → Value
 | none => .tuple #[.agg #[.string ⟨#[]⟩, .int .i32 0], .bool false]
 | some x => .tuple #[rowV x, .bool true]
theorem idx44_any (c0 : Addr) (p : NmE → Bool) (g : Nat) (w : World) (hR : Cells w g 275 NR) (K : ∀ W, Below w.heap.size w W → ∀ s z, (s, z) ∈ nmE → Calls Tryz.prog 224 #[.agg #[.string ⟨s.toArray⟩, .int .i32 z], .pointer (some c0)] W fun e w' => e = .returned (.bool (p (s, z))) ∧ Below W.heap.size W w') :
  Calls Tryz.prog 223 #[.slice (some ⟨g, 0, none⟩) 26 26, .func (Fn.func 224) #[] #[.pointer (some c0)]] w fun e w' => e = .returned (.int .i64 (idxP p)) ∧ Below w.heap.size w w' := by
 have HH := Lib.hid (And.intro hR K)
 clear hR K
 go_enter Tryz.func223, Tryz.ntmps223
 go_wp2_with fail
 go_loopw [5, 8] (fun _ i wr => ∃ k : Nat, i = .int .i64 (k : Int) ∧ k ≤ 26 ∧ (∀ (j : Nat) (y : NmE), j < k → nmE[j]? = some y → p y = false) ∧ Below w.heap.size w wr) (fun _ i _ => 26 - (RowKit.intOf i).toNat)
 case atStart => exact ⟨0, by go_num, by omega, fun j y hj => absurd hj (by omega), Below.refl _ _⟩
 case round =>
  obtain ⟨k, rfl, hk, hj, hb⟩ := hrel
  by_cases hlt : k < 26
  case neg =>
   obtain rfl : k = 26 := by omega
   have he := (idx_none (p := p) fun j x hx => hj j x (by have := (List.getElem?_eq_some_iff.1 hx).1; rw [nmE_len] at this; exact this) hx).1
   have HE := Lib.hid (And.intro he hb)
   clear he hj hb
   go_wp2_with fail
   go_ret
   exact ⟨by rw [HE.out.1]; rfl, HE.out.2⟩
  have i1 : (k : Int) < 26 := by omega
  obtain ⟨⟨s, z⟩, hx⟩ := at_lt (l := nmE) (k := k) (by rw [nmE_len]; exact hlt)
  obtain ⟨r0, r1⟩ := NR_at hx
  have xr := (hb.block g HH.out.1.lt).trans HH.out.1
  have q0 : wr.cell? ⟨g, k * 2, none⟩ = some (.string ⟨s.toArray⟩) := (Cells.cell xr (k * 2)).trans r0
  have q1 : wr.cell? ⟨g, k * 2 + 1, none⟩ = some (.int .i32 z) := (Cells.cell xr (k * 2 + 1)).trans r1
  have C := HH.out.2 wr hb s z (List.mem_of_getElem? hx)
  have HK := Lib.hid (And.intro C (And.intro hb (And.intro hj hx)))
  clear C hb hj hx xr r0 r1
  go_wp2_with fail
  refine HK.out.1.mono ?_
  rintro r w2 ⟨rfl, hb2⟩
  have b2 := HK.out.2.1.trans (hb2.mono HK.out.2.1.size)
  cases hp : p (s, z) with
  | true =>
   have he := (idx_some (p := p) HK.out.2.2.2 hp HK.out.2.2.1).1
   have HE := Lib.hid (And.intro he b2)
   clear hp he b2 hb2 q0 q1
   go_wp2_with fail
   go_ret
   exact ⟨by rw [HE.out.1]; rfl, HE.out.2⟩
  | false =>
   have hend : ∀ (j : Nat) (y : NmE), j < k + 1 → nmE[j]? = some y → p y = false := fun j y hj hy => by
    by_cases h : j = k
    ·subst h
     have := hy.symm.trans HK.out.2.2.2
     injection this with this
     rw [this]
     exact hp
    ·exact HK.out.2.2.1 j y (by omega) hy
   have HE := Lib.hid (And.intro hend b2)
   clear hp hend b2 hb2 q0 q1
   go_wp2_with fail
   go_roundw
   case rel => exact ⟨k + 1, by go_num, by omega, HE.out.1, HE.out.2⟩
   case measure => simp [RowKit.intOf]; omega
theorem find44_any (c0 : Addr) (p : NmE → Bool) (w : World) (K : ∀ W, Below w.heap.size w W → ∀ s z, (s, z) ∈ nmE → Calls Tryz.prog 224 #[.agg #[.string ⟨s.toArray⟩, .int .i32 z], .pointer (some c0)] W fun e w' => e = .returned (.bool (p (s, z))) ∧ Below W.heap.size W w') :
  Calls Tryz.prog 212 #[.func (Fn.func 224) #[] #[.pointer (some c0)]] w fun e w' => e = .returned (findV (nmE.find? p)) ∧ Below w.heap.size w w' := by
 have HK := Lib.hid K
 obtain ⟨FV, hFV⟩ : ∃ v, findV (nmE.find? p) = v := ⟨_, rfl⟩
 rw [hFV]
 have HF := Lib.hid hFV
 clear K hFV
 go_enter Tryz.func212, Tryz.ntmps212
 go_wp2_with fail
 refine (rows_any _).mono ?_
 rintro r w1 ⟨rfl, hb1⟩
 rename_i Qx Kx ax Ky ay
 dsimp only
 refine ay _ _ ?_
 refine wpList_allocTo rfl (some 4) rfl (.pointer (some ⟨w1.heap.size, 0, none⟩)) (.cells ZNR 275) (by as_aux_lemma => kernel_rfl) ?_
 have hz := heap_alloc_new w1 (.cells ZNR 275)
 refine wpList_store_row rfl 275 (.tmp 4) (.tmp 6) rfl w1.heap.size NR rfl rfl 275 ZNR hz (by as_aux_lemma => kernel_rfl) (by as_aux_lemma => kernel_rfl) (by as_aux_lemma => kernel_rfl) ?_
 apply wpList_nil
 obtain ⟨W2, hW2⟩ : ∃ W, (w1.alloc (.cells ZNR 275)).setRow w1.heap.size NR = W := ⟨_, rfl⟩
 rw [hW2]
 have x2 : Cells W2 w1.heap.size 275 NR := by rw [← hW2]; exact setRow_heap _ _ _ _ _ _ hz
 have b12 : Below w1.heap.size w1 W2 := by rw [← hW2]; exact below_setRow (below_new w1 _) (Nat.le_refl _) _
 have b1 := hb1
 have x0 : Cells W2 w.heap.size 262 #[.string ⟨#[]⟩, .int .i32 0] := ((cells_new w #[.string ⟨#[]⟩, .int .i32 0] 262).on hb1).on b12
 have b2 : Below w.heap.size w W2 := ((below_new w _).trans (hb1.mono (by simp))).trans (b12.mono (by have := hb1.size; simp at this; omega))
 have C := idx44_any c0 p w1.heap.size W2 x2 (fun W hb s z hm => HK.out W (b2.trans (hb.mono b2.size)) s z hm)
 have H2 := Lib.hid (And.intro C (And.intro x2 (And.intro x0 b2)))
 clear hW2 hz ay Ky C x2 x0 b2 b12 hb1 b1
 go_wp2_with fail
 refine H2.out.1.mono ?_
 rintro r w3 ⟨rfl, hb3⟩
 have x0 := H2.out.2.2.1.on hb3
 have x2 := H2.out.2.1.on hb3
 have b3 := H2.out.2.2.2.trans (hb3.mono H2.out.2.2.2.size)
 have p0 := x0.cell 0
 have p1 := x0.cell 1
 have f0 := x0.froz 0
 have f1 := x0.froz 1
 simp at p0 p1
 obtain ⟨h1, h2⟩ | ⟨k, ⟨s, z⟩, hk, hx, h1, h2⟩ := idx_or p
 ·rw [h1]
  have HB := Lib.hid b3
  have HV := Lib.hid (show FV = findV none by rw [← HF.out, h2])
  clear b3 x2 x0 hb3 h1 h2
  go_wp2_with fail
  refine bodyPost_ret (v := .tuple #[.agg #[.string ⟨#[]⟩, .int .i32 0], .bool false]) ?_ rfl ⟨by rw [HV.out]; rfl, ?_⟩
  ·simp [results, Tryz.results212, go_sem, p0, p1]
  ·exact (HB.out.setCell (p := ⟨_, 0, none⟩) (Nat.le_refl _) _).setCell (p := ⟨_, 1, none⟩) (Nat.le_refl _) _
 ·rw [h1]
  have HV := Lib.hid (show FV = findV (some (s, z)) by rw [← HF.out, h2])
  obtain ⟨r0, r1⟩ := NR_at hx
  have q0 : w3.cell? ⟨w1.heap.size, k * 2, none⟩ = some (.string ⟨s.toArray⟩) := (Cells.cell x2 (k * 2)).trans r0
  have q1 : w3.cell? ⟨w1.heap.size, k * 2 + 1, none⟩ = some (.int .i32 z) := (Cells.cell x2 (k * 2 + 1)).trans r1
  have i1 : (k : Int) < 26 := by omega
  have i0 : decide ((k : Int) < 0) = false := by simp
  have HB := Lib.hid b3
  clear b3 x2 x0 hb3 h1 h2 hx r0 r1
  go_wp2_with fail
  refine bodyPost_ret (v := .tuple #[.agg #[.string ⟨s.toArray⟩, .int .i32 z], .bool true]) ?_ rfl ⟨by rw [HV.out]; rfl, ?_⟩
  ·simp [results, Tryz.results212, go_sem, p0, p1]
  ·exact (HB.out.setCell (p := ⟨_, 0, none⟩) (Nat.le_refl _) _).setCell (p := ⟨_, 1, none⟩) (Nat.le_refl _) _
theorem idx66_any (c0 c1 : Addr) (p : NmE → Bool) (g : Nat) (w : World) (hR : Cells w g 275 NR) (K : ∀ W, Below w.heap.size w W → ∀ s z, (s, z) ∈ nmE → Calls Tryz.prog 213 #[.agg #[.string ⟨s.toArray⟩, .int .i32 z], .pointer (some c0), .pointer (some c1)] W fun e w' => e = .returned (.bool (p (s, z))) ∧ Below W.heap.size W w') :
  Calls Tryz.prog 223 #[.slice (some ⟨g, 0, none⟩) 26 26, .func (Fn.func 213) #[] #[.pointer (some c0), .pointer (some c1)]] w fun e w' => e = .returned (.int .i64 (idxP p)) ∧ Below w.heap.size w w' := by
 have HH := Lib.hid (And.intro hR K)
 clear hR K
 go_enter Tryz.func223, Tryz.ntmps223
 go_wp2_with fail
 go_loopw [5, 8] (fun _ i wr => ∃ k : Nat, i = .int .i64 (k : Int) ∧ k ≤ 26 ∧ (∀ (j : Nat) (y : NmE), j < k → nmE[j]? = some y → p y = false) ∧ Below w.heap.size w wr) (fun _ i _ => 26 - (RowKit.intOf i).toNat)
 case atStart => exact ⟨0, by go_num, by omega, fun j y hj => absurd hj (by omega), Below.refl _ _⟩
 case round =>
  obtain ⟨k, rfl, hk, hj, hb⟩ := hrel
  by_cases hlt : k < 26
  case neg =>
   obtain rfl : k = 26 := by omega
   have he := (idx_none (p := p) fun j x hx => hj j x (by have := (List.getElem?_eq_some_iff.1 hx).1; rw [nmE_len] at this; exact this) hx).1
   have HE := Lib.hid (And.intro he hb)
   clear he hj hb
   go_wp2_with fail
   go_ret
   exact ⟨by rw [HE.out.1]; rfl, HE.out.2⟩
  have i1 : (k : Int) < 26 := by omega
  obtain ⟨⟨s, z⟩, hx⟩ := at_lt (l := nmE) (k := k) (by rw [nmE_len]; exact hlt)
  obtain ⟨r0, r1⟩ := NR_at hx
  have xr := (hb.block g HH.out.1.lt).trans HH.out.1
  have q0 : wr.cell? ⟨g, k * 2, none⟩ = some (.string ⟨s.toArray⟩) := (Cells.cell xr (k * 2)).trans r0
  have q1 : wr.cell? ⟨g, k * 2 + 1, none⟩ = some (.int .i32 z) := (Cells.cell xr (k * 2 + 1)).trans r1
  have C := HH.out.2 wr hb s z (List.mem_of_getElem? hx)
  have HK := Lib.hid (And.intro C (And.intro hb (And.intro hj hx)))
  clear C hb hj hx xr r0 r1
  go_wp2_with fail
  refine HK.out.1.mono ?_
  rintro r w2 ⟨rfl, hb2⟩
  have b2 := HK.out.2.1.trans (hb2.mono HK.out.2.1.size)
  cases hp : p (s, z) with
  | true =>
   have he := (idx_some (p := p) HK.out.2.2.2 hp HK.out.2.2.1).1
   have HE := Lib.hid (And.intro he b2)
   clear hp he b2 hb2 q0 q1
   go_wp2_with fail
   go_ret
   exact ⟨by rw [HE.out.1]; rfl, HE.out.2⟩
  | false =>
   have hend : ∀ (j : Nat) (y : NmE), j < k + 1 → nmE[j]? = some y → p y = false := fun j y hj hy => by
    by_cases h : j = k
    ·subst h
     have := hy.symm.trans HK.out.2.2.2
     injection this with this
     rw [this]
     exact hp
    ·exact HK.out.2.2.1 j y (by omega) hy
   have HE := Lib.hid (And.intro hend b2)
   clear hp hend b2 hb2 q0 q1
   go_wp2_with fail
   go_roundw
   case rel => exact ⟨k + 1, by go_num, by omega, HE.out.1, HE.out.2⟩
   case measure => simp [RowKit.intOf]; omega
theorem find66_any (c0 c1 : Addr) (p : NmE → Bool) (w : World) (K : ∀ W, Below w.heap.size w W → ∀ s z, (s, z) ∈ nmE → Calls Tryz.prog 213 #[.agg #[.string ⟨s.toArray⟩, .int .i32 z], .pointer (some c0), .pointer (some c1)] W fun e w' => e = .returned (.bool (p (s, z))) ∧ Below W.heap.size W w') :
  Calls Tryz.prog 212 #[.func (Fn.func 213) #[] #[.pointer (some c0), .pointer (some c1)]] w fun e w' => e = .returned (findV (nmE.find? p)) ∧ Below w.heap.size w w' := by
 have HK := Lib.hid K
 obtain ⟨FV, hFV⟩ : ∃ v, findV (nmE.find? p) = v := ⟨_, rfl⟩
 rw [hFV]
 have HF := Lib.hid hFV
 clear K hFV
 go_enter Tryz.func212, Tryz.ntmps212
 go_wp2_with fail
 refine (rows_any _).mono ?_
 rintro r w1 ⟨rfl, hb1⟩
 rename_i Qx Kx ax Ky ay
 dsimp only
 refine ay _ _ ?_
 refine wpList_allocTo rfl (some 4) rfl (.pointer (some ⟨w1.heap.size, 0, none⟩)) (.cells ZNR 275) (by as_aux_lemma => kernel_rfl) ?_
 have hz := heap_alloc_new w1 (.cells ZNR 275)
 refine wpList_store_row rfl 275 (.tmp 4) (.tmp 6) rfl w1.heap.size NR rfl rfl 275 ZNR hz (by as_aux_lemma => kernel_rfl) (by as_aux_lemma => kernel_rfl) (by as_aux_lemma => kernel_rfl) ?_
 apply wpList_nil
 obtain ⟨W2, hW2⟩ : ∃ W, (w1.alloc (.cells ZNR 275)).setRow w1.heap.size NR = W := ⟨_, rfl⟩
 rw [hW2]
 have x2 : Cells W2 w1.heap.size 275 NR := by rw [← hW2]; exact setRow_heap _ _ _ _ _ _ hz
 have b12 : Below w1.heap.size w1 W2 := by rw [← hW2]; exact below_setRow (below_new w1 _) (Nat.le_refl _) _
 have b1 := hb1
 have x0 : Cells W2 w.heap.size 262 #[.string ⟨#[]⟩, .int .i32 0] := ((cells_new w #[.string ⟨#[]⟩, .int .i32 0] 262).on hb1).on b12
 have b2 : Below w.heap.size w W2 := ((below_new w _).trans (hb1.mono (by simp))).trans (b12.mono (by have := hb1.size; simp at this; omega))
 have C := idx66_any c0 c1 p w1.heap.size W2 x2 (fun W hb s z hm => HK.out W (b2.trans (hb.mono b2.size)) s z hm)
 have H2 := Lib.hid (And.intro C (And.intro x2 (And.intro x0 b2)))
 clear hW2 hz ay Ky C x2 x0 b2 b12 hb1 b1
 go_wp2_with fail
 refine H2.out.1.mono ?_
 rintro r w3 ⟨rfl, hb3⟩
 have x0 := H2.out.2.2.1.on hb3
 have x2 := H2.out.2.1.on hb3
 have b3 := H2.out.2.2.2.trans (hb3.mono H2.out.2.2.2.size)
 have p0 := x0.cell 0
 have p1 := x0.cell 1
 have f0 := x0.froz 0
 have f1 := x0.froz 1
 simp at p0 p1
 obtain ⟨h1, h2⟩ | ⟨k, ⟨s, z⟩, hk, hx, h1, h2⟩ := idx_or p
 ·rw [h1]
  have HB := Lib.hid b3
  have HV := Lib.hid (show FV = findV none by rw [← HF.out, h2])
  clear b3 x2 x0 hb3 h1 h2
  go_wp2_with fail
  refine bodyPost_ret (v := .tuple #[.agg #[.string ⟨#[]⟩, .int .i32 0], .bool false]) ?_ rfl ⟨by rw [HV.out]; rfl, ?_⟩
  ·simp [results, Tryz.results212, go_sem, p0, p1]
  ·exact (HB.out.setCell (p := ⟨_, 0, none⟩) (Nat.le_refl _) _).setCell (p := ⟨_, 1, none⟩) (Nat.le_refl _) _
 ·rw [h1]
  have HV := Lib.hid (show FV = findV (some (s, z)) by rw [← HF.out, h2])
  obtain ⟨r0, r1⟩ := NR_at hx
  have q0 : w3.cell? ⟨w1.heap.size, k * 2, none⟩ = some (.string ⟨s.toArray⟩) := (Cells.cell x2 (k * 2)).trans r0
  have q1 : w3.cell? ⟨w1.heap.size, k * 2 + 1, none⟩ = some (.int .i32 z) := (Cells.cell x2 (k * 2 + 1)).trans r1
  have i1 : (k : Int) < 26 := by omega
  have i0 : decide ((k : Int) < 0) = false := by simp
  have HB := Lib.hid b3
  clear b3 x2 x0 hb3 h1 h2 hx r0 r1
  go_wp2_with fail
  refine bodyPost_ret (v := .tuple #[.agg #[.string ⟨s.toArray⟩, .int .i32 z], .bool true]) ?_ rfl ⟨by rw [HV.out]; rfl, ?_⟩
  ·simp [results, Tryz.results212, go_sem, p0, p1]
  ·exact (HB.out.setCell (p := ⟨_, 0, none⟩) (Nat.le_refl _) _).setCell (p := ⟨_, 1, none⟩) (Nat.le_refl _) _
end Go.Proofs.YtfafhbgkmlmmdaaGreatDoor
namespace Go.Proofs.YtfafhbgkmlmmdaaGreatDoor
open Go.RowKit Go.Shelf Go.Lib Go.Maps
def strB (l : List UInt8) : ByteArray := ⟨l.toArray⟩
theorem strB_size (l : List UInt8) : (strB l).size = l.length := by simp [strB, ByteArray.size]
theorem conv_by {w : World} {B : Nat} {l : List Nat} {A : Option Addr} {cap : Nat} (h : BY w B l A cap) : (convert 22 9 (.slice A l.length cap)).run Tryz.prog w = .ok (.string ⟨(u8s l).toArray⟩) w := by
 cases l with
 | nil =>
  exact run_convert_bytes_zero (P := Tryz.prog) w 22 5 Tryz.underlying22 Tryz.underlying5 A cap 9 Tryz.underlying9
 | cons c r =>
  obtain ⟨b, o, rfl, _, hc⟩ := h.r (by simp)
  have := run_convert_bytes_back (P := Tryz.prog) w 22 9 5 ⟨b, o, none⟩ cap (u8s (c :: r)) Tryz.underlying22 Tryz.underlying5 Tryz.underlying9 (fun j hj => by
   rw [u8s_len] at hj
   obtain ⟨x, hx⟩ := at_lt hj
   have h1 := hc j x hx
   have h2 := h.lt hx
   have ea : (Addr.mk b o none).add j = ⟨b, o + j, none⟩ := by
    unfold Addr.add
    by_cases h0 : j = 0 <;> simp [h0]
   rw [ea, h1]
   have hu : (u8s (c :: r))[j]? = some (UInt8.ofNat x) := by
    unfold u8s
    rw [List.getElem?_map, hx]
    rfl
   simp [List.getElem?_eq_some_iff] at hu
   obtain ⟨h3, h4⟩ := hu
   simp [h4, Nat.mod_eq_of_lt h2])
  rw [u8s_len] at this
  exact this
structure ByR (w : World) (g : Nat) (l : List Nat) (cap : Nat) : Prop where
 row : ∃ cur k, w.heap[g]? = some (.cells cur 5 (k, k + 1)) ∧ cur.size = cap ∧ cap ≤ k ∧ ∀ (i x : Nat), l[i]? = some x → cur[i]? = some (.int .u8 (x : Int))
 le : l.length ≤ cap
 mx : cap ≤ maxLen
 b : ∀ x ∈ l, x < 256
theorem ByR.lt {w : World} {g : Nat} {l : List Nat} {cap : Nat} (h : ByR w g l cap) : g < w.heap.size := by
 obtain ⟨cur, k, h1, _⟩ := h.row
 exact (Array.getElem?_eq_some_iff.1 h1).1
theorem ByR.on {w w' : World} {g : Nat} {l : List Nat} {cap : Nat} (h : ByR w g l cap) (hb : Below w.heap.size w w') : ByR w' g l cap := by
 have hlt := h.lt
 obtain ⟨cur, k, h1, h2⟩ := h.row
 exact ⟨⟨cur, k, (hb.block g hlt).trans h1, h2⟩, h.le, h.mx, h.b⟩
theorem ByR.by {w : World} {g : Nat} {l : List Nat} {cap : Nat} (h : ByR w g l cap) : BY w w.heap.size l (some ⟨g, 0, none⟩) cap := by
 have hlt := h.lt
 obtain ⟨cur, k, h1, _, _, h2⟩ := h.row
 refine ⟨h.le, h.mx, fun e => (by cases e), h.b, fun _ => ⟨g, 0, rfl, hlt, fun i x hx => ?_⟩⟩
 rw [Nat.zero_add]
 unfold World.cell?
 rw [h1]
 simp only []
 exact h2 i x hx
theorem nats_lt (l : List UInt8) : ∀ x ∈ nats l, x < 256 := by
 intro x hx
 unfold nats at hx
 obtain ⟨u, _, rfl⟩ := List.mem_map.1 hx
 exact u.toNat_lt
theorem nats_len (l : List UInt8) : (nats l).length = l.length := by simp [nats]
theorem conv_str (w : World) (l : List UInt8) (hl : l.length ≤ 1000000) : ∃ cap W4, (convert 9 22 (.string (strB l))).run Tryz.prog w = .ok (.slice (some ⟨w.heap.size, 0, none⟩) l.length cap) W4 ∧ ByR W4 w.heap.size (nats l) cap ∧ Below w.heap.size w W4 := by
 have h := run_bytes_of_string (P := Tryz.prog) w 9 22 5 (strB l) Tryz.underlying9 Tryz.underlying22 Tryz.underlying5
 rw [strB_size] at h
 have h1 := grownCap_ge w l.length 0 5
 have h2 := grownCap_le_maxLen w l.length 0 5 (by unfold maxLen; omega)
 generalize grownCap w l.length 0 5 = cap at *
 have hsz : (bytesRow (strB l) cap).size = cap := by
  unfold bytesRow
  simp [strB, ByteArray.size]
  omega
 refine ⟨cap, _, h, ⟨⟨_, _, heap_alloc_new w.drew _, hsz, by rw [hsz]; exact Nat.le_refl _, fun i x hx => ?_⟩, by rw [nats_len]; exact h1, h2, nats_lt l⟩, (Below.refl _ _).drew.alloc (Nat.le_refl _) _⟩
 have hi : i < (strB l).data.size := by
  have := (List.getElem?_eq_some_iff.1 hx).1
  rw [nats_len] at this
  simpa [strB] using this
 rw [bytesRow_at _ _ i hi]
 unfold nats at hx
 rw [List.getElem?_map] at hx
 have hi2 : i < l.length := by simpa [strB] using hi
 rw [List.getElem?_eq_getElem hi2] at hx
 simp at hx
 simp [strB, hx]
end Go.Proofs.YtfafhbgkmlmmdaaGreatDoor
namespace Go.Proofs.YtfafhbgkmlmmdaaGreatDoor
open Go.RowKit Go.Shelf Go.Lib Go.Maps Go.Great
theorem nm_short : ∀ x ∈ nmE, x.1.length ≤ 100 := by decide
attribute [local irreducible] NR ZNR FR nmE
def isNm (n : List UInt8) (x : NmE) : Bool := x.1 == n
def isMy (u : List Nat) (c : Nat) (x : NmE) : Bool := if c = 59 then x.1 == u8s u else decide (u.length < x.1.length) && x.1.take u.length == u8s u && (nats x.1).getD u.length 0 == c
theorem clo44_any (w : World) (s : List UInt8) (z : Int) (n : List UInt8) (g : Nat) (hc : Cells w g 9 #[.string ⟨n.toArray⟩]) :
  Calls Tryz.prog 224 #[.agg #[.string ⟨s.toArray⟩, .int .i32 z], .pointer (some ⟨g, 0, none⟩)] w fun e w' => e = .returned (.bool (isNm n (s, z))) ∧ Below w.heap.size w w' := by
 go_enter Tryz.func224, Tryz.ntmps224
 have q0 := hc.cell 0
 simp at q0
 have lt := hc.lt
 go_wp2_with fail
 go_ret
 exact ⟨rfl, below_new _ _⟩
theorem slice_to (s : List UInt8) (k : Nat) (hk : k ≤ s.length) (w : World) : (Instr.slice 9 (.string ⟨s.toArray⟩) none (some (.int .i64 (k : Int))) none).run Tryz.prog w = .ok (.string ⟨(s.take k).toArray⟩) w := by
 have := run_slice_string_h (P := Tryz.prog) w 9 ⟨s.toArray⟩ Tryz.underlying9 .i64 (k : Int) (by omega) (by show (k : Int) ≤ ((s.length : Nat) : Int); omega)
 rw [this]
 have e : (ByteArray.extract ⟨s.toArray⟩ 0 (k : Int).toNat) = ⟨(s.take k).toArray⟩ := by
  apply ByteArray.ext
  simp
 rw [e]
theorem index_at (s : List UInt8) (k : Nat) (hk : k < s.length) (w : World) : (Instr.index 9 (.string ⟨s.toArray⟩) (.int .i64 (k : Int))).run Tryz.prog w = .ok (.int .u8 (((nats s).getD k 0 : Nat) : Int)) w := by
 rw [run_index_string _ _ _ _ _ Tryz.underlying9, dif_pos ⟨by omega, by show (k : Int) < ((s.length : Nat) : Int); omega⟩]
 have : (nats s).getD k 0 = (s[k]'hk).toNat := by simp [nats, List.getD_eq_getElem?_getD, hk]
 rw [this]
 rfl
theorem clo66_any (w : World) (s : List UInt8) (z : Int) (u : List Nat) (A : Option Addr) (cap c : Nat) (g0 g1 : Nat) (h0 : Cells w g0 22 #[.slice A u.length cap]) (h1 : Cells w g1 5 #[.int .u8 (c : Int)]) (hu : BY w w.heap.size u A cap) (_hs : s.length ≤ 100) :
  Calls Tryz.prog 213 #[.agg #[.string ⟨s.toArray⟩, .int .i32 z], .pointer (some ⟨g0, 0, none⟩), .pointer (some ⟨g1, 0, none⟩)] w fun e w' => e = .returned (.bool (isMy u c (s, z))) ∧ Below w.heap.size w w' := by
 go_enter Tryz.func213, Tryz.ntmps213
 have q0 := h0.cell 0
 have q1 := h1.cell 0
 simp at q0 q1
 have lt0 := h0.lt
 have lt1 := h1.lt
 have ha := below_new w (.cells #[.string ⟨s.toArray⟩, .int .i32 z] 262)
 have hcv := conv_by (hu.on ha)
 by_cases hc : c = 59
 case pos =>
  subst hc
  go_wp2_with fail
  go_ret
  exact ⟨rfl, below_new _ _⟩
 case neg =>
  have hc1 : ¬ (c : Int) = 59 := by omega
  have hc2 : ((c : Int) == 59) = false := by simp; omega
  by_cases hl : u.length < s.length
  case neg =>
   go_wp2_with go_quiet (fail)
   go_ret
   refine ⟨?_, below_drewN (below_new _ _) _⟩
   simp [isMy, hc, hl]
  case pos =>
   have hsl := slice_to s u.length (by omega)
   have hix := index_at s u.length hl
   have hcvn := fun n => conv_by ((hu.on ha).on (below_drewN (Below.refl _ _) n))
   by_cases he : s.take u.length = u8s u
   case neg =>
    have he2 : (s.take u.length == u8s u) = false := by simp [he]
    go_wp2_with go_quiet (fail)
    go_ret
    refine ⟨?_, below_drewN (below_new _ _) _⟩
    simp [isMy, hc, hl, he]
   case pos =>
    go_wp2_with go_quiet (fail)
    go_ret
    refine ⟨?_, below_drewN (below_new _ _) _⟩
    rw [isMy, if_neg hc]
    have e3 : ((((nats s)[u.length]?.getD 0 : Nat) : Int) == (c : Int)) = ((nats s).getD u.length 0 == c) := by
     rw [List.getD_eq_getElem?_getD, Bool.eq_iff_iff]
     simp only [beq_iff_eq]
     omega
    simp only [he, hl, decide_true, beq_self_eq_true, Bool.true_and]
    exact congrArg (fun b => Ending.returned (Value.bool b)) e3
theorem find_any (w : World) (n : List UInt8) :
  Calls Tryz.prog 214 #[.string ⟨n.toArray⟩] w fun e w' => e = .returned (.tuple #[.int .i32 (((nmE.find? (isNm n)).map (·.2)).getD 0), .bool (nmE.find? (isNm n)).isSome]) ∧ Below w.heap.size w w' := by
 go_enter Tryz.func214, Tryz.ntmps214
 have C := find44_any ⟨w.heap.size, 0, none⟩ (isNm n) (w.alloc (.cells #[.string ⟨n.toArray⟩] 9)) (fun W hb s z _ => clo44_any W s z n _ ((cells_new w #[.string ⟨n.toArray⟩] 9).on hb))
 go_wp2_with fail
 refine C.mono ?_
 rintro r w1 ⟨rfl, hb1⟩
 have hb := (below_new w (.cells #[.string ⟨n.toArray⟩] 9)).trans (hb1.mono (by simp))
 cases hf : nmE.find? (isNm n) with
 | none =>
  simp only [findV]
  have HB := Lib.hid (And.intro hb hf)
  clear hb hb1 C hf
  go_wp2_with fail
  refine bodyPost_ret (v := .tuple #[.int .i32 0, .bool false]) ?_ rfl ⟨by rw [HB.out.2]; rfl, ?_⟩
  ·simp [results, Tryz.results214, go_sem]
  ·exact HB.out.1.trans ((below_new w1 _).mono HB.out.1.size)
 | some x =>
  obtain ⟨s, z⟩ := x
  simp only [findV, rowV]
  have HB := Lib.hid (And.intro hb hf)
  clear hb hb1 C hf
  go_wp2_with fail
  refine bodyPost_ret (v := .tuple #[.int .i32 z, .bool true]) ?_ rfl ⟨by rw [HB.out.2]; rfl, ?_⟩
  ·simp [results, Tryz.results214, go_sem]
  ·exact HB.out.1.trans ((below_new w1 _).mono HB.out.1.size)
def nmR (n : List UInt8) : Int := ((nmE.find? (isNm n)).map (·.2)).getD 0
theorem ofName_any (w : World) (u : List Nat) (A : Option Addr) (cap : Nat) (hu : BY w w.heap.size u A cap) :
  Calls Tryz.prog 197 #[.slice A u.length cap] w fun e w' => e = .returned (.int .i32 (nmR (u8s u))) ∧ Below w.heap.size w w' := by
 go_enter Tryz.func197, Tryz.ntmps197
 have hcv := conv_by hu
 have C := find_any w (u8s u)
 go_wp2_with fail
 refine C.mono ?_
 rintro r w1 ⟨rfl, hb1⟩
 go_wp2_with fail
 go_ret
 exact ⟨rfl, hb1⟩
theorem mayName_any (w : World) (u : List Nat) (A : Option Addr) (cap c : Nat) (hu : BY w w.heap.size u A cap) :
  Calls Tryz.prog 196 #[.slice A u.length cap, .int .u8 (c : Int)] w fun e w' => e = .returned (.bool (nmE.find? (isMy u c)).isSome) ∧ Below w.heap.size w w' := by
 have b1 := below_new w (.cells #[.slice A u.length cap] 22)
 have b2 := below_new (w.alloc (.cells #[.slice A u.length cap] 22)) (.cells #[.int .u8 (c : Int)] 5)
 have b3 := b1.trans (b2.mono (by simp))
 have x1 := (cells_new w #[.slice A u.length cap] 22).on b2
 have x2 := cells_new (w.alloc (.cells #[.slice A u.length cap] 22)) #[.int .u8 (c : Int)] 5
 have C := find66_any ⟨w.heap.size, 0, none⟩ ⟨w.heap.size + 1, 0, none⟩ (isMy u c) ((w.alloc (.cells #[.slice A u.length cap] 22)).alloc (.cells #[.int .u8 (c : Int)] 5)) (fun W hb s z hm =>
  clo66_any W s z u A cap c _ _ (x1.on hb) (by have := x2.on hb; simpa using this) ((hu.on b3).on hb) (nm_short _ hm))
 have HC := Lib.hid (And.intro C b3)
 clear C b1 b2 b3 x1 x2
 go_enter Tryz.func196, Tryz.ntmps196
 go_wp2_with fail
 refine HC.out.1.mono ?_
 rintro r w1 ⟨rfl, hb1⟩
 have hb := HC.out.2.trans (hb1.mono (by simp; omega))
 cases hf : nmE.find? (isMy u c) with
 | none =>
  simp only [findV]
  have HB := Lib.hid (And.intro hb hf)
  clear hb hb1 hf HC
  go_wp2_with fail
  go_ret
  exact ⟨by rw [HB.out.2]; rfl, HB.out.1.trans ((below_new w1 _).mono HB.out.1.size)⟩
 | some x =>
  obtain ⟨s, z⟩ := x
  simp only [findV, rowV]
  have HB := Lib.hid (And.intro hb hf)
  clear hb hb1 hf HC
  go_wp2_with fail
  go_ret
  exact ⟨by rw [HB.out.2]; rfl, HB.out.1.trans ((below_new w1 _).mono HB.out.1.size)⟩
end Go.Proofs.YtfafhbgkmlmmdaaGreatDoor

namespace Go.Proofs.YtfafhbgkmlmmdaaGreatDoor.S
open Go.RowKit Go.Shelf
open Go.Lib
def low (c : Nat) : Nat := c ||| 32
theorem low_lt (c : Nat) (h : c < 256) : low c < 256 := Nat.or_lt_two_pow (n := 8) h (by decide)
theorem lower_any (c : Nat) (h : c < 256) (w : World) : Calls Tryz.prog 237 #[.int .u8 c] w fun e w' => e = .returned (.int .u8 (low c)) ∧ w' = w := by
 have hb : bits .or .u8 (c : Int) 32 = (low c : Int) := by
  revert c
  decide +kernel
 go_enter Tryz.func237, Tryz.ntmps237
 go_wp2
 go_ret
 exact ⟨rfl, rfl⟩
theorem low_48 : ∀ c, c < 48 → low c < 97 := by decide +kernel
theorem low_95 : ∀ c, c = 95 → low c = 127 := by rintro c rfl; decide
def pd (c : Nat) : Nat := if 48 ≤ c ∧ c ≤ 57 then c - 48 else if 97 ≤ low c ∧ low c ≤ 122 then low c - 87 else 99
def pu : List UInt8 → Nat → Except Bool Nat
 | [], n => .ok n
 | c :: r, n => if pd c.toNat < 16 then (if 16 * n + pd c.toNat ≤ 4294967295 then pu r (16 * n + pd c.toNat) else .error false) else .error true
def puE (l : List UInt8) : Except Bool Nat := if l = [] then .error true else pu l 0
def puV : Except Bool Nat → Value
 | .ok n => .tuple #[.int .u64 n, .nilIface]
 | .error true => .tuple #[.int .u64 0, .iface 283 (.int .i64 2)]
 | .error false => .tuple #[.int .u64 4294967295, .iface 283 (.int .i64 1)]
theorem bytes_new (w : World) (s : ByteArray) : ∃ W cap, (convert 9 22 (.string s)).run Tryz.prog w = .ok (.slice (some ⟨w.heap.size, 0, none⟩) s.size cap) W ∧ (∀ j (hj : j < s.data.toList.length), W.cell? ⟨w.heap.size, j, none⟩ = some (.int .u8 ((s.data.toList[j]'hj).toNat : Int))) ∧ Below w.heap.size w W := by
 refine ⟨_, _, run_bytes_of_string (P := Tryz.prog) w 9 22 5 s Tryz.underlying9 Tryz.underlying22 Tryz.underlying5, fun j hj => ?_, (Below.refl _ _).drew.alloc (Nat.le_refl _) _⟩
 have hj' : j < s.size := by simpa using hj
 have e : (w.drew.alloc (.cells (bytesRow s (grownCap w s.size 0 5)) 5 ((bytesRow s (grownCap w s.size 0 5)).size, (bytesRow s (grownCap w s.size 0 5)).size + 1))).heap[w.heap.size]? = some (.cells (bytesRow s (grownCap w s.size 0 5)) 5 ((bytesRow s (grownCap w s.size 0 5)).size, (bytesRow s (grownCap w s.size 0 5)).size + 1)) := by
  show (w.heap.push _)[w.heap.size]? = _
  simp
 unfold World.cell?
 dsimp only
 rw [e]
 show (bytesRow s _)[j]? = _
 unfold bytesRow
 rw [Array.getElem?_append_left (by simpa using hj')]
 simp [hj']
theorem pui_any (s : ByteArray) (w : World) (hs : s.size ≤ 1000000) :
  Calls Tryz.prog 232 #[.string s, .int .i64 16, .int .i64 32] w fun e w' => e = .returned (puV (puE s.data.toList)) ∧ Below w.heap.size w w' := by
 by_cases h0 : s.size = 0
 ·have e : s.data.toList = [] := List.length_eq_zero_iff.1 (by simpa using h0)
  rw [e]
  have e1 : s.toList = [] := by rw [ByteArray.toList_eq]; exact e
  go_enter Tryz.func232, Tryz.ntmps232
  go_wp2
  go_ret2
  exact ⟨rfl, Below.refl _ _⟩
 ·have hne : s.data.toList ≠ [] := fun e => h0 (by rw [← ByteArray.size_data, ← Array.length_toList, e]; rfl)
  have hR : puE s.data.toList = pu s.data.toList 0 := if_neg hne
  have hl : s.data.toList.length = s.size := by simp
  rw [hR]
  have e1 : s.toList.isEmpty = false := by rw [ByteArray.toList_eq]; cases h : s.data.toList <;> simp_all
  have CL := Lib.hid lower_any
  obtain ⟨W, cap, hconv, hcell, hb⟩ := bytes_new w s
  have HC := Lib.hid hcell
  have HB := Lib.hid hb
  have HL := Lib.hid hl
  generalize s.data.toList = L at *
  generalize s.size = n at *
  clear hne hR hcell hb hl
  go_enter Tryz.func232, Tryz.ntmps232
  go_wp2_with fail
  clear hconv
  obtain ⟨R, hRR⟩ : ∃ R, pu L 0 = R := ⟨_, rfl⟩
  have HR0 := Lib.hid hRR
  go_loopw [12, 13, 101] (fun us v i wr => ∃ k m : Nat, i = .int .i64 k ∧ k ≤ n ∧ v = .int .u64 m ∧ m ≤ 4294967295 ∧ pu (L.drop k) m = R ∧ us = .bool false ∧ wr = W) (fun _ _ i _ => n - (RowKit.intOf i).toNat)
  case atStart => exact ⟨0, 0, rfl, Nat.zero_le _, rfl, by omega, HR0.out, rfl, rfl⟩
  case round =>
   obtain ⟨k, m, rfl, hk, rfl, hm, hP, rfl, rfl⟩ := hrel
   have HP := Lib.hid hP
   clear hP
   by_cases hlt : k < n
   ·have hcell := HC.out k (by have := HL.out; omega)
    have hdrop := List.drop_eq_getElem_cons (l := L) (i := k) (by have := HL.out; omega)
    have hc256 := (L[k]'(by have := HL.out; omega)).toNat_lt
    generalize hcc : L[k]'(by have := HL.out; omega) = c8 at *
    have HS : Hid (R = if pd c8.toNat < 16 then (if 16 * m + pd c8.toNat ≤ 4294967295 then pu (L.drop (k + 1)) (16 * m + pd c8.toNat) else .error false) else .error true) := Lib.hid (by rw [← HP.out, hdrop]; rfl)
    generalize hcn : c8.toNat = c at *
    clear hcn hcc hdrop HP
    have i1 : (k : Int) < (n : Int) := by omega
    have c0 : (0 : Int) ≤ (c : Int) := by omega
    have c1 : (c : Int) ≤ 255 := by omega
    have m1 : (m : Int) ≤ 4294967295 := by omega
    have m2 : decide ((1152921504606846976 : Int) ≤ (m : Int)) = false := by simp; omega
    have l0 := low_lt c hc256
    by_cases a : 48 ≤ c ∧ c ≤ 57
    ·have e : pd c = c - 48 := if_pos a
     rw [e, if_pos (by omega)] at HS
     have a1 : (48 : Int) ≤ (c : Int) := by omega
     have a2 : (c : Int) ≤ 57 := by omega
     have a3 : decide ((16 : Int) ≤ (c : Int) - 48) = false := by simp; omega
     by_cases o : 16 * m + (c - 48) ≤ 4294967295
     ·rw [if_pos o] at HS
      have o1 : decide ((m : Int) * 16 + ((c : Int) - 48) < (m : Int) * 16) = false := by simp; omega
      have o2 : decide ((4294967295 : Int) < (m : Int) * 16 + ((c : Int) - 48)) = false := by simp; omega
      have o3 : (m : Int) * 16 + ((c : Int) - 48) ≤ 4294967295 := by omega
      clear a e
      go_wp2
      go_roundw
      case rel => exact ⟨k + 1, 16 * m + (c - 48), by go_num, by omega, by go_num, o, HS.out.symm, rfl, trivial⟩
      case measure => simp [RowKit.intOf]; omega
     ·rw [if_neg o] at HS
      have o1 : decide ((m : Int) * 16 + ((c : Int) - 48) < (m : Int) * 16) = false := by simp; omega
      have o2 : (4294967295 : Int) < (m : Int) * 16 + ((c : Int) - 48) := by omega
      clear a e
      go_wp2
      go_ret2
      exact ⟨by rw [HR0.out, HS.out]; rfl, HB.out⟩
    ·have ep : pd c = if 97 ≤ low c ∧ low c ≤ 122 then low c - 87 else 99 := if_neg a
     have l1 : (low c : Int) ≤ 255 := by omega
     have l2 : (0 : Int) ≤ (low c : Int) := by omega
     have CL1 := Lib.hid (fun W => CL.out c hc256 W)
     have n48 := low_48 c
     have n95 := low_95 c
     generalize low c = l at *
     by_cases g : 48 ≤ c
     ·have g1 : (48 : Int) ≤ (c : Int) := by omega
      have g2 : decide ((c : Int) ≤ 57) = false := by simp; omega
      by_cases u : c = 95
      ·have u1 : ((c : Int) == 95) = true := by simp; omega
       have n127 := n95 u
       rw [if_neg (by omega)] at ep
       have b1 : (97 : Int) ≤ (l : Int) := by omega
       have b2 : decide ((l : Int) ≤ 122) = false := by simp; omega
       rw [ep, if_neg (by omega)] at HS
       clear ep a u n48 n95 n127
       go_wp2_with (first | (go_at_call 237; refine (CL1.out _).mono ?_; rintro e w' ⟨rfl, rfl⟩))
       go_ret2
       exact ⟨by rw [HR0.out, HS.out]; rfl, HB.out⟩
      ·have u1 : ((c : Int) == 95) = false := by simp; omega
       clear u n48 n95
       by_cases q1 : 97 ≤ l
       ·by_cases q2 : l ≤ 122
        ·rw [if_pos ⟨q1, q2⟩] at ep
         have b1 : (97 : Int) ≤ (l : Int) := by omega
         have b2 : (l : Int) ≤ 122 := by omega
         by_cases q3 : l ≤ 102
         ·have b3 : decide ((16 : Int) ≤ (l : Int) - 97 + 10) = false := by simp; omega
          rw [ep, if_pos (by omega)] at HS
          by_cases o : 16 * m + (l - 87) ≤ 4294967295
          ·rw [if_pos o] at HS
           have o1 : decide ((m : Int) * 16 + ((l : Int) - 97 + 10) < (m : Int) * 16) = false := by simp; omega
           have o2 : decide ((4294967295 : Int) < (m : Int) * 16 + ((l : Int) - 97 + 10)) = false := by simp; omega
           have o3 : (m : Int) * 16 + ((l : Int) - 97 + 10) ≤ 4294967295 := by omega
           clear a ep
           go_wp2_with (first | (go_at_call 237; refine (CL1.out _).mono ?_; rintro e w' ⟨rfl, rfl⟩))
           go_roundw
           case rel => exact ⟨k + 1, 16 * m + (l - 87), by go_num, by omega, by go_num, o, HS.out.symm, rfl, trivial⟩
           case measure => simp [RowKit.intOf]; omega
          ·rw [if_neg o] at HS
           have o1 : decide ((m : Int) * 16 + ((l : Int) - 97 + 10) < (m : Int) * 16) = false := by simp; omega
           have o2 : (4294967295 : Int) < (m : Int) * 16 + ((l : Int) - 97 + 10) := by omega
           clear a ep
           go_wp2_with (first | (go_at_call 237; refine (CL1.out _).mono ?_; rintro e w' ⟨rfl, rfl⟩))
           go_ret2
           exact ⟨by rw [HR0.out, HS.out]; rfl, HB.out⟩
         ·have b3 : (16 : Int) ≤ (l : Int) - 97 + 10 := by omega
          rw [ep, if_neg (by omega)] at HS
          clear ep a
          go_wp2_with (first | (go_at_call 237; refine (CL1.out _).mono ?_; rintro e w' ⟨rfl, rfl⟩))
          go_ret2
          exact ⟨by rw [HR0.out, HS.out]; rfl, HB.out⟩
        ·rw [if_neg (by omega)] at ep
         have b1 : (97 : Int) ≤ (l : Int) := by omega
         have b2 : decide ((l : Int) ≤ 122) = false := by simp; omega
         rw [ep, if_neg (by omega)] at HS
         clear ep a
         go_wp2_with (first | (go_at_call 237; refine (CL1.out _).mono ?_; rintro e w' ⟨rfl, rfl⟩))
         go_ret2
         exact ⟨by rw [HR0.out, HS.out]; rfl, HB.out⟩
       ·rw [if_neg (by omega)] at ep
        have b1 : decide ((97 : Int) ≤ (l : Int)) = false := by simp; omega
        rw [ep, if_neg (by omega)] at HS
        clear ep a
        go_wp2_with (first | (go_at_call 237; refine (CL1.out _).mono ?_; rintro e w' ⟨rfl, rfl⟩))
        go_ret2
        exact ⟨by rw [HR0.out, HS.out]; rfl, HB.out⟩
     ·have g1 : decide ((48 : Int) ≤ (c : Int)) = false := by simp; omega
      have nl := n48 (by omega)
      rw [if_neg (by omega)] at ep
      have b1 : decide ((97 : Int) ≤ (l : Int)) = false := by simp; omega
      rw [ep, if_neg (by omega)] at HS
      clear ep a n48 n95 nl
      go_wp2_with (first | (go_at_call 237; refine (CL1.out _).mono ?_; rintro e w' ⟨rfl, rfl⟩))
      go_ret2
      exact ⟨by rw [HR0.out, HS.out]; rfl, HB.out⟩
   ·have hkn : k = n := by omega
    have e : pu (L.drop k) m = .ok m := by rw [List.drop_eq_nil_of_le (by have := HL.out; omega)]; rfl
    have HE := Lib.hid (show R = .ok m by rw [← HP.out, e])
    subst hkn
    clear e
    go_wp2
    go_ret2
    exact ⟨by rw [HR0.out, HE.out]; rfl, HB.out⟩
def piR (neg : Bool) : Except Bool Nat → Except Bool Int
 | .error b => .error b
 | .ok n => if neg then (if n ≤ 2147483648 then .ok (-n) else .error false) else (if n < 2147483648 then .ok n else .error false)
def piE : List UInt8 → Except Bool Int
 | [] => .error true
 | c :: r => if c = 43 then piR false (puE r) else if c = 45 then piR true (puE r) else piR false (puE (c :: r))
def PiRes (R : Except Bool Int) (v : Int) (ev : Value) : Prop :=
 -2147483648 ≤ v ∧ v ≤ 2147483647 ∧ match R with
  | .ok n => v = n ∧ ev = .nilIface
  | .error true => ev = .iface 283 (.int .i64 2)
  | .error false => ev = .iface 283 (.int .i64 1)
def PiPost (R : Except Bool Int) (w : World) (e : Ending) (w' : World) : Prop := ∃ v ev, e = .returned (.tuple #[.int .i64 v, ev]) ∧ PiRes R v ev ∧ Below w.heap.size w w'
theorem pu_le : ∀ (l : List UInt8) (m n : Nat), m ≤ 4294967295 → pu l m = .ok n → n ≤ 4294967295
 | [], m, n, hm, h => by
  have e : m = n := by simpa [pu] using h
  omega
 | c :: r, m, n, hm, h => by
  unfold pu at h
  split at h
  ·split at h
   ·exact pu_le r _ n (by assumption) h
   ·cases h
  ·cases h
theorem puE_le {l : List UInt8} {n : Nat} (h : puE l = .ok n) : n ≤ 4294967295 := by
 unfold puE at h
 split at h
 ·cases h
 ·exact pu_le l 0 n (by omega) h
theorem tail_str (s : ByteArray) : (s.extract 1 s.size).data.toList = s.data.toList.drop 1 := by
 simp [ByteArray.data_extract]
 exact List.take_of_length_le (by simp)
theorem pii_any (s : ByteArray) (w : World) (hs : s.size ≤ 1000000) :
  Calls Tryz.prog 229 #[.string s, .int .i64 16, .int .i64 32] w (PiPost (piE s.data.toList) w) := by
 have q1 : ∀ w, (binOp .neq 168 (.iface 283 (.int .i64 2)) (.iface 283 (.int .i64 1))).run Tryz.prog w = .ok (.bool true) w := fun _ => by kernel_rfl
 have q2 : ∀ w, (binOp .neq 168 (.iface 283 (.int .i64 1)) (.iface 283 (.int .i64 1))).run Tryz.prog w = .ok (.bool false) w := fun _ => by kernel_rfl
 have q3 : ∀ w (n : Int), (binOp .neq 168 (.iface 283 (.int .i64 n)) .nilIface).run Tryz.prog w = .ok (.bool true) w := fun _ _ => by kernel_rfl
 by_cases h0 : s.size = 0
 ·have e : s.data.toList = [] := List.length_eq_zero_iff.1 (by simpa using h0)
  rw [e]
  have e1 : s.toList = [] := by rw [ByteArray.toList_eq]; exact e
  go_enter Tryz.func229, Tryz.ntmps229
  go_wp2
  go_ret2
  exact ⟨_, _, rfl, ⟨by omega, by omega, rfl⟩, Below.refl _ _⟩
 ·have e1 : s.toList.isEmpty = false := by
   rw [ByteArray.toList_eq]
   cases h : s.data.toList with
   | nil => exact absurd (by simpa using congrArg List.length h) h0
   | cons _ _ => rfl
  have hs0 : 0 < s.size := by omega
  obtain ⟨c, hc⟩ : ∃ c : UInt8, s[0]'hs0 = c := ⟨_, rfl⟩
  have hL : s.data.toList = c :: s.data.toList.drop 1 := by
   have : s.data.toList[0]'(by simpa using hs0) = c := by rw [← hc]; rfl
   rw [← this]
   exact List.drop_eq_getElem_cons (l := s.data.toList) (i := 0) (by simpa using hs0)
  have C1 := Lib.hid (fun W => pui_any (s.extract 1 s.size) W (by simp; omega))
  have C2 := Lib.hid (fun W => pui_any s W hs)
  rw [tail_str] at C1
  rw [hL]
  have HL := Lib.hid hL
  rw [HL.out] at C2
  generalize s.data.toList.drop 1 = r at *
  clear hL
  by_cases p1 : c = 43
  ·subst p1
   have E : piE (43 :: r) = piR false (puE r) := rfl
   rw [E]
   have hRn := fun n (h : puE r = .ok n) => puE_le h
   generalize puE r = R at *
   have CC := C1
   clear E C2
   have HB := Lib.hid (fun n (h : R = .ok n) => (show n ≤ 4294967295 from hRn n h))
   clear hRn
   go_enter Tryz.func229, Tryz.ntmps229
   go_wp2_with fail
   refine (CC.out _).mono ?_
   rintro e w1 ⟨rfl, hb⟩
   rcases R with (_ | _) | n
   ·unfold puV
    go_wp2
    go_ret2
    exact ⟨_, _, rfl, ⟨by omega, by omega, rfl⟩, hb⟩
   ·unfold puV
    go_wp2
    go_ret2
    exact ⟨_, _, rfl, ⟨by omega, by omega, rfl⟩, hb⟩
   ·have hn := HB.out n rfl
    clear HB
    by_cases b : n < 2147483648
    ·have b1 : decide ((2147483648 : Int) ≤ (n : Int)) = false := by simp; omega
     have b2 : (n : Int) < 2147483648 := by omega
     have E : piR false (.ok n) = .ok (n : Int) := by show (if n < 2147483648 then _ else _) = _; rw [if_pos b]
     have HE := Lib.hid E
     clear b E
     unfold puV
     go_wp2
     go_ret2
     exact ⟨_, _, rfl, by rw [HE.out]; exact ⟨by omega, by omega, rfl, rfl⟩, hb⟩
    ·have b1 : (2147483648 : Int) ≤ (n : Int) := by omega
     have E : piR false (.ok n) = .error false := by show (if n < 2147483648 then _ else _) = _; rw [if_neg b]
     have HE := Lib.hid E
     clear b E
     unfold puV
     go_wp2
     go_ret2
     exact ⟨_, _, rfl, by rw [HE.out]; exact ⟨by omega, by omega, rfl⟩, hb⟩
  ·by_cases p2 : c = 45
   ·subst p2
    have E : piE (45 :: r) = piR true (puE r) := rfl
    rw [E]
    have hRn := fun n (h : puE r = .ok n) => puE_le h
    generalize puE r = R at *
    have CC := C1
    clear E C2
    have HB := Lib.hid (fun n (h : R = .ok n) => (show n ≤ 4294967295 from hRn n h))
    clear hRn
    go_enter Tryz.func229, Tryz.ntmps229
    go_wp2_with fail
    refine (CC.out _).mono ?_
    rintro e w1 ⟨rfl, hb⟩
    rcases R with (_ | _) | n
    ·unfold puV
     go_wp2
     go_ret2
     exact ⟨_, _, rfl, ⟨by omega, by omega, rfl⟩, hb⟩
    ·unfold puV
     go_wp2
     go_ret2
     exact ⟨_, _, rfl, ⟨by omega, by omega, rfl⟩, hb⟩
    ·have hn := HB.out n rfl
     clear HB
     by_cases b : n ≤ 2147483648
     ·have b1 : decide ((2147483648 : Int) < (n : Int)) = false := by simp; omega
      have b2 : (n : Int) ≤ 2147483648 := by omega
      have E : piR true (.ok n) = .ok (-(n : Int)) := by show (if n ≤ 2147483648 then _ else _) = _; rw [if_pos b]
      have HE := Lib.hid E
      clear b E
      unfold puV
      go_wp2
      go_ret2
      exact ⟨_, _, rfl, by rw [HE.out]; exact ⟨by omega, by omega, rfl, rfl⟩, hb⟩
     ·have b1 : (2147483648 : Int) < (n : Int) := by omega
      have E : piR true (.ok n) = .error false := by show (if n ≤ 2147483648 then _ else _) = _; rw [if_neg b]
      have HE := Lib.hid E
      clear b E
      unfold puV
      go_wp2
      go_ret2
      exact ⟨_, _, rfl, by rw [HE.out]; exact ⟨by omega, by omega, rfl⟩, hb⟩
   ·have E : piE (c :: r) = piR false (puE (c :: r)) := by show (if c = 43 then _ else if c = 45 then _ else _) = _; rw [if_neg p1, if_neg p2]
    rw [E]
    have hRn := fun n (h : puE (c :: r) = .ok n) => puE_le h
    have d1 : ((c.toNat : Int) == 43) = false := by
     simp only [beq_eq_false_iff_ne]
     intro h
     exact p1 (UInt8.toNat_inj.1 (by have : c.toNat = 43 := (by omega); rw [this]; rfl))
    have d2 : ((c.toNat : Int) == 45) = false := by
     simp only [beq_eq_false_iff_ne]
     intro h
     exact p2 (UInt8.toNat_inj.1 (by have : c.toNat = 45 := (by omega); rw [this]; rfl))
    generalize puE (c :: r) = R at *
    have CC := C2
    clear E C1 p1 p2
    have HB := Lib.hid (fun n (h : R = .ok n) => (show n ≤ 4294967295 from hRn n h))
    clear hRn
    go_enter Tryz.func229, Tryz.ntmps229
    go_wp2_with fail
    refine (CC.out _).mono ?_
    rintro e w1 ⟨rfl, hb⟩
    rcases R with (_ | _) | n
    ·unfold puV
     go_wp2
     go_ret2
     exact ⟨_, _, rfl, ⟨by omega, by omega, rfl⟩, hb⟩
    ·unfold puV
     go_wp2
     go_ret2
     exact ⟨_, _, rfl, ⟨by omega, by omega, rfl⟩, hb⟩
    ·have hn := HB.out n rfl
     clear HB
     by_cases b : n < 2147483648
     ·have b1 : decide ((2147483648 : Int) ≤ (n : Int)) = false := by simp; omega
      have b2 : (n : Int) < 2147483648 := by omega
      have E : piR false (.ok n) = .ok (n : Int) := by show (if n < 2147483648 then _ else _) = _; rw [if_pos b]
      have HE := Lib.hid E
      clear b E
      unfold puV
      go_wp2
      go_ret2
      exact ⟨_, _, rfl, by rw [HE.out]; exact ⟨by omega, by omega, rfl, rfl⟩, hb⟩
     ·have b1 : (2147483648 : Int) ≤ (n : Int) := by omega
      have E : piR false (.ok n) = .error false := by show (if n < 2147483648 then _ else _) = _; rw [if_neg b]
      have HE := Lib.hid E
      clear b E
      unfold puV
      go_wp2
      go_ret2
      exact ⟨_, _, rfl, by rw [HE.out]; exact ⟨by omega, by omega, rfl⟩, hb⟩
end Go.Proofs.YtfafhbgkmlmmdaaGreatDoor.S
namespace Go.Proofs.YtfafhbgkmlmmdaaGreatDoor
open Go.RowKit Go.Shelf Go.Lib Go.Maps
open S
def zb (zs : List Int) (j : Nat) : Nat := (zs.getD j 0).toNat
theorem enc_f (r : Int) (j : Nat) : ((encodeRune r).getD j 0).toNat = zb (encodeRuneZ r) j := by
 unfold zb encodeRune
 by_cases h : j < (encodeRuneZ r).length
 ·have hb := encodeRuneZ_byte r _ (List.getElem_mem h)
  simp [List.getD_eq_getElem?_getD, h]
  omega
 ·simp [List.getD_eq_getElem?_getD, h]
theorem enc_len2 (r : Int) : (encodeRune r).length = (encodeRuneZ r).length := by simp [encodeRune]
theorem piece_enc (v : Int) (h : Lib.validRune v = true) : M1.pieceB (encodeRuneZ v).length (zb (encodeRuneZ v) 0) (zb (encodeRuneZ v) 1) (zb (encodeRuneZ v) 2) (zb (encodeRuneZ v) 3) = (v.toNat, (encodeRuneZ v).length, true) := by
 obtain ⟨h0, h1, h2⟩ := (valid_iff v).1 h
 obtain ⟨n, rfl⟩ : ∃ n : Nat, v = n := ⟨v.toNat, by omega⟩
 by_cases c1 : (n : Int) ≤ 127
 ·rw [encodeRuneZ_one h0 c1]
  have e : zb [(n : Int)] 0 = n := by simp [zb]
  show M1.pieceB 1 (zb [(n : Int)] 0) 0 0 0 = _
  rw [e]
  unfold M1.pieceB
  rw [if_pos (by unfold firstT; rw [if_pos (by omega)])]
  simp
 ·by_cases c2 : (n : Int) ≤ 2047
  ·rw [encodeRuneZ_two (by omega) c2]
   have e0 : zb [192 + (n : Int) / 64, 128 + (n : Int) % 64] 0 = 192 + n / 64 := by simp [zb]; omega
   have e1 : zb [192 + (n : Int) / 64, 128 + (n : Int) % 64] 1 = 128 + n % 64 := by simp [zb]; omega
   show M1.pieceB 2 (zb [192 + (n : Int) / 64, 128 + (n : Int) % 64] 0) (zb [192 + (n : Int) / 64, 128 + (n : Int) % 64] 1) 0 0 = _
   rw [e0, e1]
   have ft : firstT (192 + n / 64) = 2 := by
    unfold firstT
    rw [if_neg (by omega), if_neg (by omega), if_pos (by omega)]
   unfold M1.pieceB
   rw [ft, if_neg (by omega), if_neg (by omega)]
   unfold M1.pieceS
   rw [if_pos ⟨by omega, by show 128 ≤ _; omega, by show _ ≤ 191; omega⟩, if_pos (by decide)]
   simp
   omega
  ·by_cases c3 : (n : Int) ≤ 65535
   ·rw [encodeRuneZ_three (by omega)]
    have e0 : zb [224 + (n : Int) / 4096, 128 + (n : Int) / 64 % 64, 128 + (n : Int) % 64] 0 = 224 + n / 4096 := by simp [zb]; omega
    have e1 : zb [224 + (n : Int) / 4096, 128 + (n : Int) / 64 % 64, 128 + (n : Int) % 64] 1 = 128 + n / 64 % 64 := by simp [zb]; omega
    have e2 : zb [224 + (n : Int) / 4096, 128 + (n : Int) / 64 % 64, 128 + (n : Int) % 64] 2 = 128 + n % 64 := by simp [zb]; omega
    show M1.pieceB 3 (zb [224 + (n : Int) / 4096, 128 + (n : Int) / 64 % 64, 128 + (n : Int) % 64] 0) (zb [224 + (n : Int) / 4096, 128 + (n : Int) / 64 % 64, 128 + (n : Int) % 64] 1) (zb [224 + (n : Int) / 4096, 128 + (n : Int) / 64 % 64, 128 + (n : Int) % 64] 2) 0 = _
    rw [e0, e1, e2]
    have key : ∀ f lo hi, firstT (224 + n / 4096) = f → f % 8 = 3 → f ≠ 240 → f ≠ 241 → accLo (f / 16) = lo → accHi (f / 16) = hi → lo ≤ 128 + n / 64 % 64 → 128 + n / 64 % 64 ≤ hi → M1.pieceB 3 (224 + n / 4096) (128 + n / 64 % 64) (128 + n % 64) 0 = ((n : Int).toNat, 3, true) := by
     intro f lo hi hf h8 n0 n1 hlo hhi g1 g2
     unfold M1.pieceB
     rw [hf, if_neg n0, if_neg n1, h8, hlo, hhi]
     unfold M1.pieceS
     rw [if_pos ⟨by omega, g1, g2⟩, if_neg (by decide), if_pos ⟨by omega, by omega, by omega⟩, if_pos rfl]
     simp
     omega
    by_cases d1 : n / 4096 = 0
    ·exact key 19 160 191 (by unfold firstT; rw [if_neg (by omega), if_neg (by omega), if_neg (by omega), if_pos (by omega)]) (by decide) (by decide) (by decide) (by decide) (by decide) (by omega) (by omega)
    ·by_cases d2 : n / 4096 = 13
     ·exact key 35 128 159 (by unfold firstT; rw [if_neg (by omega), if_neg (by omega), if_neg (by omega), if_neg (by omega), if_neg (by omega), if_pos (by omega)]) (by decide) (by decide) (by decide) (by decide) (by decide) (by omega) (by omega)
     ·by_cases d3 : n / 4096 < 13
      ·exact key 3 128 191 (by unfold firstT; rw [if_neg (by omega), if_neg (by omega), if_neg (by omega), if_neg (by omega), if_pos (by omega)]) (by decide) (by decide) (by decide) (by decide) (by decide) (by omega) (by omega)
      ·exact key 3 128 191 (by unfold firstT; rw [if_neg (by omega), if_neg (by omega), if_neg (by omega), if_neg (by omega), if_neg (by omega), if_neg (by omega), if_pos (by omega)]) (by decide) (by decide) (by decide) (by decide) (by decide) (by omega) (by omega)
   ·rw [encodeRuneZ_four (by omega) (by omega)]
    have e0 : zb [240 + (n : Int) / 262144, 128 + (n : Int) / 4096 % 64, 128 + (n : Int) / 64 % 64, 128 + (n : Int) % 64] 0 = 240 + n / 262144 := by simp [zb]; omega
    have e1 : zb [240 + (n : Int) / 262144, 128 + (n : Int) / 4096 % 64, 128 + (n : Int) / 64 % 64, 128 + (n : Int) % 64] 1 = 128 + n / 4096 % 64 := by simp [zb]; omega
    have e2 : zb [240 + (n : Int) / 262144, 128 + (n : Int) / 4096 % 64, 128 + (n : Int) / 64 % 64, 128 + (n : Int) % 64] 2 = 128 + n / 64 % 64 := by simp [zb]; omega
    have e3 : zb [240 + (n : Int) / 262144, 128 + (n : Int) / 4096 % 64, 128 + (n : Int) / 64 % 64, 128 + (n : Int) % 64] 3 = 128 + n % 64 := by simp [zb]; omega
    rw [e0, e1, e2, e3]
    have key : ∀ f lo hi, firstT (240 + n / 262144) = f → f % 8 = 4 → f ≠ 240 → f ≠ 241 → accLo (f / 16) = lo → accHi (f / 16) = hi → lo ≤ 128 + n / 4096 % 64 → 128 + n / 4096 % 64 ≤ hi → M1.pieceB 4 (240 + n / 262144) (128 + n / 4096 % 64) (128 + n / 64 % 64) (128 + n % 64) = ((n : Int).toNat, 4, true) := by
     intro f lo hi hf h8 n0 n1 hlo hhi g1 g2
     unfold M1.pieceB
     rw [hf, if_neg n0, if_neg n1, h8, hlo, hhi]
     unfold M1.pieceS
     rw [if_pos ⟨by omega, g1, g2⟩, if_neg (by decide), if_pos ⟨by omega, by omega, by omega⟩, if_neg (by decide), if_pos ⟨by omega, by omega, by omega⟩]
     simp
     omega
    by_cases d1 : n / 262144 = 0
    ·exact key 52 144 191 (by unfold firstT; rw [if_neg (by omega), if_neg (by omega), if_neg (by omega), if_neg (by omega), if_neg (by omega), if_neg (by omega), if_neg (by omega), if_pos (by omega)]) (by decide) (by decide) (by decide) (by decide) (by decide) (by omega) (by omega)
    ·by_cases d2 : n / 262144 = 4
     ·exact key 68 128 143 (by unfold firstT; rw [if_neg (by omega), if_neg (by omega), if_neg (by omega), if_neg (by omega), if_neg (by omega), if_neg (by omega), if_neg (by omega), if_neg (by omega), if_neg (by omega), if_pos (by omega)]) (by decide) (by decide) (by decide) (by decide) (by decide) (by omega) (by omega)
     ·exact key 4 128 191 (by unfold firstT; rw [if_neg (by omega), if_neg (by omega), if_neg (by omega), if_neg (by omega), if_neg (by omega), if_neg (by omega), if_neg (by omega), if_neg (by omega), if_pos (by omega)]) (by decide) (by decide) (by decide) (by decide) (by decide) (by omega) (by omega)
theorem zb_out (zs : List Int) (j : Nat) (h : zs.length ≤ j) : zb zs j = 0 := by simp [zb, List.getD_eq_getElem?_getD, h]
theorem pc_enc (r : Int) : S.pc (encodeRuneZ r).length (zb (encodeRuneZ r)) = ((scR r).toNat, (encodeRuneZ r).length, true) := by
 have h := piece_enc (scR r) (scR_valid r)
 rw [← encZ_scR] at h
 unfold S.pc
 have e : ∀ j, S.bt (encodeRuneZ r).length (zb (encodeRuneZ r)) j = zb (encodeRuneZ r) j := fun j => by
  unfold S.bt
  split
  ·rfl
  ·exact (zb_out _ _ (by omega)).symm
 rw [e, e, e, e]
 exact h
theorem scR_nat (r : Int) : (((scR r).toNat : Nat) : Int) = scR r := by
 have := (valid_iff (scR r)).1 (scR_valid r)
 omega
theorem nearest_any (r : Int) (h0 : -2147483648 ≤ r) (h1 : r ≤ 2147483647) (w : World) (hT : S.Tabs w) : Calls Tryz.prog 226 #[.int .i32 r] w fun e w' => e = .returned (.int .i32 (scR r)) ∧ Below w.heap.size w w' := by
 have KP := S.put_any r h0 h1 w
 have KN : ∀ e W, S.PutPost (encodeRune r) w e W → ∃ g cap, e = .returned (.slice (some ⟨g, 0, none⟩) (encodeRuneZ r).length cap) ∧ Below w.heap.size w W ∧ Calls Tryz.prog 141 #[.slice (some ⟨g, 0, none⟩) (encodeRuneZ r).length cap, .int .i64 0] W fun e w' => (∃ n : Int, e = .returned (.tuple #[.int .i32 (scR r), .int .i64 n])) ∧ Below W.heap.size W w' := fun e W h => by
  obtain ⟨g, cap, rfl, hc, hl, hm, hg, hb⟩ := h
  rw [enc_len2] at hl ⊢
  refine ⟨g, cap, rfl, hb, ?_⟩
  have hTW : S.Tabs W := hT.below hb hT.2
  have hB : S.Bs W g 0 (encodeRuneZ r).length (zb (encodeRuneZ r)) := fun j hj => by
   have hj' : j < (encodeRune r).length := by rw [enc_len2]; exact hj
   have e1 := enc_f r j
   have e2 : (encodeRune r).getD j 0 = (encodeRune r)[j] := by simp [List.getD_eq_getElem?_getD, hj']
   rw [e2] at e1
   refine ⟨?_, ?_⟩
   ·rw [Nat.zero_add, hc j hj', e1]
   ·rw [← e1]; exact UInt8.toNat_lt _
  have C := S.next_in g 0 (encodeRuneZ r).length cap 0 (zb (encodeRuneZ r)) W hTW hB (by have := (encodeRuneZ_length r).1; omega) hl hm
  refine C.mono ?_
  rintro e w' ⟨rfl, hb2⟩
  refine ⟨⟨((S.pc ((encodeRuneZ r).length - 0) (fun j => zb (encodeRuneZ r) (0 + j))).2.1 : Int), ?_⟩, hb2⟩
  ·rw [Nat.sub_zero]
   simp only [Nat.zero_add]
   rw [show (fun j => zb (encodeRuneZ r) j) = zb (encodeRuneZ r) from rfl, pc_enc, scR_nat]
 have HK := Lib.hid (And.intro KP KN)
 clear KP KN
 generalize (encodeRuneZ r).length = n at *
 generalize scR r = R at *
 go_enter Tryz.func226, Tryz.ntmps226
 go_wp2_with fail
 refine HK.out.1.mono ?_
 intro e w1 h1
 obtain ⟨g, cap, rfl, hb1, C1⟩ := HK.out.2 _ _ h1
 have H1 := Lib.hid (And.intro hb1 C1)
 clear hb1 C1 h1
 go_wp2_with fail
 refine H1.out.2.mono ?_
 rintro e w2 ⟨⟨q, rfl⟩, hb2⟩
 have H2 := Lib.hid (H1.out.1.trans (hb2.mono H1.out.1.size))
 clear hb2
 go_wp2_with fail
 go_ret
 exact ⟨rfl, H2.out⟩
end Go.Proofs.YtfafhbgkmlmmdaaGreatDoor
namespace Go.Proofs.YtfafhbgkmlmmdaaGreatDoor
open Go.RowKit Go.Shelf Go.Lib Go.Maps Go.Great
attribute [local irreducible] NR ZNR FR nmE
def dgB (base c : Nat) : Bool := decide (48 ≤ c) && decide (c ≤ 57) || decide (base = 16) && (decide (97 ≤ c) && decide (c ≤ 102) || decide (65 ≤ c) && decide (c ≤ 70))
def dv (c : Nat) : Nat := if c ≤ 57 then c - 48 else if c ≤ 70 then c - 55 else c - 87
def nbV (base : Nat) : List Nat → Nat → Nat
 | [], n => n
 | c :: r, n => nbV base r (base * n + dv c)
def mnR (n : Nat) : Int := if n = 0 then 65533 else scR n
theorem dv_16 : ∀ c, c < 256 → dgB 16 c = true → S.pd c = dv c ∧ dv c < 16 ∧ c ≠ 43 ∧ c ≠ 45 := by decide +kernel
theorem dv_10 : ∀ c, c < 256 → dgB 10 c = true → 48 ≤ c ∧ c ≤ 57 ∧ dv c = c - 48 ∧ dv c < 10 := by decide +kernel
theorem dv_lt {b c : Nat} (hb : b = 10 ∨ b = 16) (hc : c < 256) (h : dgB b c = true) : dv c < b := by
 rcases hb with rfl | rfl
 ·exact (dv_10 c hc h).2.2.2
 ·exact (dv_16 c hc h).2.1
theorem nbV_lt {b : Nat} (hb : b = 10 ∨ b = 16) : ∀ (l : List Nat) (n m : Nat), (∀ x ∈ l, x < 256 ∧ dgB b x = true) → n < b ^ m → nbV b l n < b ^ (m + l.length)
 | [], n, m, _, h => by simpa [nbV] using h
 | c :: r, n, m, hd, h => by
  have h1 := dv_lt hb (hd c (by simp)).1 (hd c (by simp)).2
  have h2 : b * n + dv c < b ^ (m + 1) := by
   rw [Nat.pow_succ, Nat.mul_comm (b ^ m) b]
   calc b * n + dv c < b * n + b := by omega
    _ = b * (n + 1) := by rw [Nat.mul_add, Nat.mul_one]
    _ ≤ b * b ^ m := Nat.mul_le_mul_left _ h
  have := nbV_lt hb r _ (m + 1) (fun x hx => hd x (by simp [hx])) h2
  rw [nbV, List.length_cons, show m + (r.length + 1) = m + 1 + r.length by omega]
  exact this
theorem pu_num : ∀ (l : List UInt8) (n m : Nat), (∀ x ∈ nats l, x < 256 ∧ dgB 16 x = true) → n < 16 ^ m → m + l.length ≤ 7 → S.pu l n = .ok (nbV 16 (nats l) n)
 | [], n, m, _, _, _ => rfl
 | c :: r, n, m, hd, h, hm => by
  have h1 := dv_16 c.toNat (UInt8.toNat_lt _) (hd c.toNat (by simp [nats])).2
  have h2 : 16 * n + dv c.toNat < 16 ^ (m + 1) := by rw [Nat.pow_succ]; omega
  have h3 : 16 ^ (m + 1) ≤ 16 ^ 7 := Nat.pow_le_pow_right (by decide) (by simp at hm; omega)
  have h4 : (16 : Nat) ^ 7 = 268435456 := by decide
  rw [S.pu, h1.1, if_pos h1.2.1, if_pos (by omega), pu_num r _ (m + 1) (fun x hx => hd x (by simp [nats] at hx ⊢; exact Or.inr hx)) h2 (by simp at hm; omega)]
  rfl
theorem piE_num (l : List UInt8) (hd : ∀ x ∈ nats l, x < 256 ∧ dgB 16 x = true) (h0 : l ≠ []) (hm : l.length ≤ 6) : S.piE l = .ok (nbV 16 (nats l) 0 : Nat) := by
 cases l with
 | nil => exact absurd rfl h0
 | cons c r =>
  have h1 := dv_16 c.toNat (UInt8.toNat_lt _) (hd c.toNat (by simp [nats])).2
  have hu := pu_num (c :: r) 0 0 hd (by decide) (by omega)
  have n1 : c ≠ 43 := by rintro rfl; exact h1.2.2.1 rfl
  have n2 : c ≠ 45 := by rintro rfl; exact h1.2.2.2 rfl
  have hb := nbV_lt (Or.inr rfl) (nats (c :: r)) 0 0 hd (by decide)
  have h3 : 16 ^ (0 + (nats (c :: r)).length) ≤ 16 ^ 6 := Nat.pow_le_pow_right (by decide) (by rw [nats, List.length_map]; omega)
  have h4 : (16 : Nat) ^ 6 = 16777216 := by decide
  rw [S.piE, if_neg n1, if_neg n2, S.puE, if_neg h0, hu, S.piR]
  simp only [Bool.false_eq_true, if_false]
  rw [if_pos (by omega)]
theorem pum_num : ∀ (l : List UInt8) (n m : Nat), (∀ x ∈ nats l, x < 256 ∧ dgB 10 x = true) → n < 10 ^ m → m + l.length ≤ 7 → Lib.parseUintM (2 ^ 32 - 1) n l = .ok (nbV 10 (nats l) n)
 | [], n, m, _, _, _ => rfl
 | c :: r, n, m, hd, h, hm => by
  have h1 := dv_10 c.toNat (UInt8.toNat_lt _) (hd c.toNat (by simp [nats])).2
  have h2 : 10 * n + dv c.toNat < 10 ^ (m + 1) := by rw [Nat.pow_succ]; omega
  have h3 : 10 ^ (m + 1) ≤ 10 ^ 7 := Nat.pow_le_pow_right (by decide) (by simp at hm; omega)
  have h4 : (10 : Nat) ^ 7 = 10000000 := by decide
  have e : n * 10 + (c.toNat - 48) = 10 * n + dv c.toNat := by omega
  rw [Lib.parseUintM, if_pos ⟨h1.1, h1.2.1⟩, if_neg (by omega), if_neg (by omega), e, pum_num r _ (m + 1) (fun x hx => hd x (by simp [nats] at hx ⊢; exact Or.inr hx)) h2 (by simp at hm; omega)]
  rfl
theorem piB_num (l : List UInt8) (hd : ∀ x ∈ nats l, x < 256 ∧ dgB 10 x = true) (h0 : l ≠ []) (hm : l.length ≤ 7) : Lib.parseIntB 32 l = .ok (nbV 10 (nats l) 0 : Nat) := by
 cases l with
 | nil => exact absurd rfl h0
 | cons c r =>
  have h1 := dv_10 c.toNat (UInt8.toNat_lt _) (hd c.toNat (by simp [nats])).2
  have hu := pum_num (c :: r) 0 0 hd (by decide) (by omega)
  have hb := nbV_lt (Or.inl rfl) (nats (c :: r)) 0 0 hd (by decide)
  have h3 : 10 ^ (0 + (nats (c :: r)).length) ≤ 10 ^ 7 := Nat.pow_le_pow_right (by decide) (by rw [nats, List.length_map]; omega)
  have h4 : (10 : Nat) ^ 7 = 10000000 := by decide
  rw [Lib.parseIntB_plain 32 c r (by omega) (by omega), Lib.parseUintB, if_neg h0, hu, Lib.signlessC]
  rw [if_neg (by have : (2 : Nat) ^ (32 - 1) = 2147483648 := (by decide); omega)]
theorem isDigit_any (c base : Nat) (_hb : base = 10 ∨ base = 16) (w : World) :
  Calls Tryz.prog 216 #[.int .u8 (c : Int), .int .i64 (base : Int)] w fun e w' => e = .returned (.bool (dgB base c)) ∧ w' = w := by
 go_enter Tryz.func216, Tryz.ntmps216
 have fin : ∀ (b : Bool), dgB base c = b → dgB base c = b := fun _ h => h
 by_cases h1 : (48 : Int) ≤ (c : Int)
 all_goals by_cases h2 : (c : Int) ≤ 57
 all_goals by_cases h3 : (base : Int) = 16
 all_goals by_cases h4 : (97 : Int) ≤ (c : Int)
 all_goals by_cases h5 : (c : Int) ≤ 102
 all_goals by_cases h6 : (65 : Int) ≤ (c : Int)
 all_goals by_cases h7 : (c : Int) ≤ 70
 all_goals first
  | (exfalso; omega)
  | skip
 all_goals go_wp2_with fail
 all_goals go_ret
 all_goals refine ⟨?_, rfl⟩
 all_goals simp [dgB]
 all_goals omega
end Go.Proofs.YtfafhbgkmlmmdaaGreatDoor
