/-
  TokenAt HOLDS: the token of any byte is the document's: for every input, in whatever memory in which the listed tables read as the library lays them.
  TokenAt's walk.
  Contract: token.At.
-/
import Derived.Lay
import Derived.LaidOnce
import Derived.LaidMore
import Derived.ChangeOld
import Derived.ShutString
import Derived.SevenTiedAt
import Derived.Test.YtnedjafpjbfncaaGreatDoorXqa
import Derived.Test.YtnedjafpjbfncaaGreatDoorXqb
import Derived.Test.YtnedjafpjbfncaaGreatDoorXqc
import Derived.Test.YtnedjafpjbfncaaGreatDoorXqd
import Derived.Test.YtnedjafpjbfncaaGreatDoorXqe
import Derived.Test.YtnedjafpjbfncaaGreatDoorXqf
import Derived.Test.YtnedjafpjbfncaaGreatDoorXqg
import Derived.Test.YtnedjafpjbfncaaGreatDoorXqh
import Derived.Test.YtnedjafpjbfncaaGreatDoorXqi
import Derived.Test.YtnedjafpjbfncaaGreatDoorXqj
import Derived.Test.YtnedjafpjbfncaaGreatDoorXqk
import Derived.Test.YtnedjafpjbfncaaGreatDoorXql
import Derived.Test.YtnedjafpjbfncaaGreatDoorXqm
import Derived.Test.YtnedjafpjbfncaaGreatDoorCards
import Derived.Test.YtnedjafpjbfncaaGreatDoorTie
namespace Go.Proofs.YtnedjafpjbfncaaGreatDoor
open Go.RowKit Go.Shelf Go.Lib Go.Maps Go.Great
attribute [local go_sem] Oper.semAt_some
attribute [local irreducible] NR ZNR FR nmE

/-- Has a token the byte of a place? -/
def hasB (i : Int) (x : TK) : Bool := decide ((x.fr : Int) ≤ i) && decide (i < (x.to : Int))
/-- The token of a place. -/
def atT (L : List TK) (i : Int) : Option TK := L.find? (hasB i)
theorem find_pre {p : TK → Bool} {l m : List TK} {x : TK} (h : l <+: m) (hx : l.find? p = some x) : m.find? p = some x := by
  obtain ⟨r, rfl⟩ := h
  rw [List.find?_append, hx]
  rfl
set_option maxHeartbeats 8000000 in
set_option maxRecDepth 100000 in
theorem At_any (xs : List Nat) (A : Option Addr) (cap : Nat) (i : Int) (w : World) (hx : BY w w.heap.size xs A cap) (hl : xs.length ≤ 100000) (hM : G.MX w) (hT : S.Tabs w) :
    Calls Tryz.prog 13 #[.slice A xs.length cap, .int .i64 i] w fun e w' => e = .returned (.tuple #[tokV ((atT (eachL xs) i).getD tkZ), .bool (atT (eachL xs) i).isSome]) ∧ Below w.heap.size w w' := by
  refine (callsIn_wide (n := 10)).1 ?_
  obtain ⟨Wa, hWa⟩ : ∃ V, w.alloc (.cells #[.int .i64 i] 3) = V := ⟨_, rfl⟩
  have ba : Below w.heap.size w Wa := by rw [← hWa]; exact below_new w _
  have sa : Wa.heap.size = w.heap.size + 1 := by rw [← hWa]; simp
  have xa : Cells Wa w.heap.size 3 #[.int .i64 i] := by rw [← hWa]; exact cells_new _ _ _
  obtain ⟨Wb, hWb⟩ : ∃ V, Wa.alloc (.cells #[.int .i64 0, .int .i64 0, .int .i64 0, .string ⟨#[]⟩, .int .i32 0, .bool false] 30) = V := ⟨_, rfl⟩
  have bb : Below Wa.heap.size Wa Wb := by rw [← hWb]; exact below_new Wa _
  have sb : Wb.heap.size = w.heap.size + 2 := by rw [← hWb]; simp [sa]
  have xb : Cells Wb (w.heap.size + 1) 30 #[.int .i64 0, .int .i64 0, .int .i64 0, .string ⟨#[]⟩, .int .i32 0, .bool false] := by rw [← sa, ← hWb]; exact cells_new _ _ _
  obtain ⟨W1, hW1⟩ : ∃ V, Wb.alloc (.cells #[.bool false] 4) = V := ⟨_, rfl⟩
  have b1 : Below Wb.heap.size Wb W1 := by rw [← hW1]; exact below_new Wb _
  have s1 : W1.heap.size = w.heap.size + 3 := by rw [← hW1]; simp [sb]
  have xc : Cells W1 (w.heap.size + 2) 4 #[.bool false] := by rw [← sb, ← hW1]; exact cells_new _ _ _
  obtain ⟨W2, hW2⟩ : ∃ V, W1.alloc (.cells #[.slice A xs.length cap] 22) = V := ⟨_, rfl⟩
  have b12 : Below W1.heap.size W1 W2 := by rw [← hW2]; exact below_new W1 _
  have s2 : W2.heap.size = w.heap.size + 4 := by rw [← hW2]; simp [s1]
  have c2 : Cells W2 (w.heap.size + 3) 22 #[.slice A xs.length cap] := by rw [← s1, ← hW2]; exact cells_new _ _ _
  have ya := (((xa.on bb).on b1).on b12)
  have yb := ((xb.on b1).on b12)
  have yc := xc.on b12
  have b2 : Below w.heap.size w W2 := ((ba.trans (bb.mono (by omega))).trans (b1.mono (by omega))).trans (b12.mono (by omega))
  have HE := each_hands 8 (by omega) xs A cap (w.heap.size + 3) w.heap.size (fun k => k = w.heap.size + 1 ∨ k = w.heap.size + 2) W2 (hx.below b2) hl (hM.on (B := w.heap.size) hM.pos b2) (hT.below b2 (by have := hT.2; omega)) (by have := hT.2; omega) c2 (by omega) (fun k hk => by omega)
  have hcl := hx.l
  obtain ⟨N, hN⟩ : ∃ N, xs.length = N := ⟨_, rfl⟩
  rw [hN] at hl hcl
  rw [hN] at hW2 c2
  rw [hN]
  obtain ⟨L, hL⟩ : ∃ L, eachL xs = L := ⟨_, rfl⟩
  rw [hL] at HE
  rw [hL]
  refine callsIn_of_wp_marks Tryz.func13 rfl trivial ?_ rfl
  simp only [Tryz.ntmps13, List.size_toArray, List.length_cons, List.length_nil, Nat.reduceAdd, Nat.reduceSub, Array.replicate_succ, Array.replicate_zero, List.push_toArray, List.append_toArray, List.nil_append, List.cons_append]
  gi_wp2_with (fail)
  refine ⟨trivial, ?_⟩
  gi_at_call 17
  refine (callsIn_wide.2 (each_any A N cap W1)).mono ?_
  rintro e _ ⟨rfl, rfl⟩
  rw [hW2]
  obtain ⟨I, hI⟩ : ∃ I : List TK → Option Nat → World → Prop, I = fun pre ob V => pre.find? (hasB i) = none ∧ ob = none ∧ Cells V w.heap.size 3 #[.int .i64 i] ∧ Cells V (w.heap.size + 1) 30 #[.int .i64 0, .int .i64 0, .int .i64 0, .string ⟨#[]⟩, .int .i32 0, .bool false] ∧ Cells V (w.heap.size + 2) 4 #[.bool false] := ⟨_, rfl⟩
  obtain ⟨Ix, hIx⟩ : ∃ I : List TK → Option Nat → World → Prop, I = fun pre ob V => ob = none ∧ ∃ x, pre.find? (hasB i) = some x ∧ Cells V (w.heap.size + 1) 30 (tokC x) ∧ Cells V (w.heap.size + 2) 4 #[.bool true] := ⟨_, rfl⟩
  have sI : Stab W2.heap.size I := fun pre ob V V' hv h1 h2 h3 h4 h5 => by
    rw [hI] at hv ⊢
    obtain ⟨v0, v1, v2, v3, v4⟩ := hv
    exact ⟨v0, v1, (h5 _ v2.lt (.inl (by omega))).trans v2, (h5 _ v3.lt (.inl (by omega))).trans v3, (h5 _ v4.lt (.inl (by omega))).trans v4⟩
  have sIx : Stab W2.heap.size Ix := fun pre ob V V' hv h1 h2 h3 h4 h5 => by
    rw [hIx] at hv ⊢
    obtain ⟨v0, x, v1, v3, v4⟩ := hv
    exact ⟨v0, x, v1, (h5 _ v3.lt (.inl (by omega))).trans v3, (h5 _ v4.lt (.inl (by omega))).trans v4⟩
  have oI : ObIn (W2.heap.size + 2) I := fun pre k V hv => by
    rw [hI] at hv
    have := hv.2.1
    cases this
  have oIx : ObIn (W2.heap.size + 2) Ix := fun pre k V hv => by
    rw [hIx] at hv
    have := hv.1
    cases this
  have hi0 : I [] none W2 := by
    rw [hI]
    exact ⟨rfl, rfl, ya, yb, yc⟩
  gi_wp2_with (fail)
  refine wpIn_handsT (X := fun k => k = w.heap.size + 1 ∨ k = w.heap.size + 2) (xs := L) (by omega) (gf := 22) (lb := #[.pointer (some ⟨w.heap.size + 3, 0, none⟩)]) rfl (enters_of Tryz.func22 (by kernel_rfl) rfl) (HE.anyN _) (fun k hk => by omega) rfl I Ix sI sIx oI oIx hi0
    (fun x p => { tmps := #[.slice A N cap, .int .i64 i, undef, .pointer (some ⟨w.heap.size, 0, none⟩), .pointer (some ⟨w.heap.size + 1, 0, none⟩), .pointer (some ⟨w.heap.size + 2, 0, none⟩), .pointer (some ⟨p, 0, none⟩), .slice A N cap, .func (.func 22) #[] #[.pointer (some ⟨w.heap.size + 3, 0, none⟩)], tokV x, undef, undef, undef, undef, undef, undef, undef, undef, undef, undef, undef, undef], defers := [] }) ?assign ?body ?done ?stop
  case assign =>
    intro l1 x V K hK
    unfold tokV tokC
    unfold tokV tokC at hK
    gi_wp2_with (fail)
    exact hK
  case body =>
    intro l1 pre ob x p V hi hpre xV hp hob
    rw [hI] at hi
    obtain ⟨hfn, rfl, va, vb, vc⟩ := hi
    have hsn : ∀ b, hasB i x = b → (pre ++ [x]).find? (hasB i) = if b then some x else none := fun b hb => by
      rw [List.find?_append, hfn]
      cases b <;> simp [hb]
    have htc : (tokC x) = #[.int .i64 (x.kind : Int), .int .i64 (x.fr : Int), .int .i64 (x.to : Int), .string ⟨(G.u8s x.name).toArray⟩, .int .i32 x.r, .bool x.sg] := rfl
    obtain ⟨tv, htv⟩ : ∃ v, tokV x = v := ⟨_, rfl⟩
    have hhb : hasB i x = (decide ((x.fr : Int) ≤ i) && decide (i < (x.to : Int))) := rfl
    have hIx2 : ∀ V', Cells V' (w.heap.size + 1) 30 (tokC x) → Cells V' (w.heap.size + 2) 4 #[.bool true] → hasB i x = true → Ix (pre ++ [x]) none V' := fun V' h1 h2 h3 => by
      rw [hIx]
      exact ⟨rfl, x, by rw [hsn true h3]; rfl, h1, h2⟩
    have hI2 : hasB i x = false → I (pre ++ [x]) none V := fun h3 => by
      rw [hI]
      exact ⟨by rw [hsn false h3]; rfl, rfl, va, vb, vc⟩
    rw [htc] at xV hIx2
    obtain ⟨SN, hSN⟩ : ∃ Sx : ByteArray, ⟨(G.u8s x.name).toArray⟩ = Sx := ⟨_, rfl⟩
    obtain ⟨kd, hkd⟩ : ∃ n, x.kind = n := ⟨_, rfl⟩
    obtain ⟨sg, hsg⟩ : ∃ n, x.sg = n := ⟨_, rfl⟩
    obtain ⟨fr, hfr⟩ : ∃ n, x.fr = n := ⟨_, rfl⟩
    obtain ⟨te, hte⟩ : ∃ n, x.to = n := ⟨_, rfl⟩
    obtain ⟨rr, hrr⟩ : ∃ n, x.r = n := ⟨_, rfl⟩
    rw [hSN, hkd, hsg, hfr, hte, hrr] at xV hIx2
    rw [hfr, hte] at hhb
    rw [htv]
    have q0 := xV.cell 0
    have q1 := xV.cell 1
    have q2 := xV.cell 2
    have q3 := xV.cell 3
    have q4 := xV.cell 4
    have q5 := xV.cell 5
    have qa := va.cell 0
    have k0 := vb.cell 0
    have k1 := vb.cell 1
    have k2 := vb.cell 2
    have k3 := vb.cell 3
    have k4 := vb.cell 4
    have k5 := vb.cell 5
    have kc := vc.cell 0
    have g0 := vb.froz 0
    have g1 := vb.froz 1
    have g2 := vb.froz 2
    have g3 := vb.froz 3
    have g4 := vb.froz 4
    have g5 := vb.froz 5
    have gc := vc.froz 0
    simp at q0 q1 q2 q3 q4 q5 qa k0 k1 k2 k3 k4 k5 kc
    have HU := Lib.hid (And.intro hIx2 (And.intro hI2 (And.intro vb (And.intro vc hhb))))
    have hnp : p ≠ w.heap.size + 1 ∧ p ≠ w.heap.size + 2 := by omega
    clear hIx2 hI2 va vb vc hhb hI hIx sI sIx oI oIx hi0 HE hpre htc htv hob hx hM hT hSN hkd hsg hfr hte hrr hfn hsn xV
    clear hWa ba sa xa hWb bb sb xb hW1 b1 s1 xc b12 c2 ya yb yc b2 hcl hl
    by_cases c1 : (fr : Int) ≤ i
    · by_cases c2 : i < (te : Int)
      · have ht : hasB i x = true := by rw [HU.out.2.2.2.2]; simp [c1, c2]
        have HT := Lib.hid ht
        clear ht
        gi_wp2_with (fail)
        refine ⟨none, HU.out.1 _ ?_ ?_ HT.out, ?_⟩
        · have := (((((HU.out.2.2.1.set 0 (.int .i64 (kd : Int))).set 1 (.int .i64 (fr : Int))).set 2 (.int .i64 (te : Int))).set 3 (.string SN)).set 4 (.int .i32 rr)).set 5 (.bool sg)
          exact (Below.heap_setCell _ _ _ _ (fun e => by simp at e)).trans this
        · have := HU.out.2.2.2.1
          have h1 : ∀ (Z : World) (j : Nat) (v : Value), Cells Z (w.heap.size + 2) 4 #[.bool false] → Cells (Z.setCell ⟨w.heap.size + 1, j, none⟩ v) (w.heap.size + 2) 4 #[.bool false] := fun Z j v h => (Below.heap_setCell _ _ _ _ (fun e => by simp at e)).trans h
          exact (h1 _ _ _ (h1 _ _ _ (h1 _ _ _ (h1 _ _ _ (h1 _ _ _ (h1 _ _ _ this)))))).set 0 _
        · have h1 : ∀ (Z : World) (j : Nat) (v : Value), Fr (fun k => k = w.heap.size + 1 ∨ k = w.heap.size + 2) none none Z (Z.setCell ⟨w.heap.size + 1, j, none⟩ v) := fun Z j v => Fr.setc _ _ _ _ (.inl rfl)
          exact ((((((h1 _ _ _).trans (h1 _ _ _)).trans (h1 _ _ _)).trans (h1 _ _ _)).trans (h1 _ _ _)).trans (h1 _ _ _)).trans (Fr.setc _ _ _ _ (.inr rfl))
      · have hf : hasB i x = false := by rw [HU.out.2.2.2.2]; simp [c2]
        have HT := Lib.hid hf
        clear hf
        gi_wp2_with (fail)
        exact ⟨none, HU.out.2.1 HT.out, Fr.refl _ _ _⟩
    · have hf : hasB i x = false := by rw [HU.out.2.2.2.2]; simp [c1]
      have c1' : decide ((fr : Int) ≤ i) = false := by simpa using c1
      have HT := Lib.hid hf
      clear hf
      gi_wp2_with (fail)
      exact ⟨none, HU.out.2.1 HT.out, Fr.refl _ _ _⟩
  case done =>
    intro D ob V hD hv hf hKD
    obtain rfl : D = w.heap.size + 4 := by omega
    rw [hI] at hv
    obtain ⟨hfn, rfl, va, vb, vc⟩ := hv
    have bV : Below w.heap.size w V := b2.trans (hf.below (B := w.heap.size) (by omega) (fun k hk => by omega) (by simp))
    have hat : atT L i = none := hfn
    have k0 := vb.cell 0
    have k1 := vb.cell 1
    have k2 := vb.cell 2
    have k3 := vb.cell 3
    have k4 := vb.cell 4
    have k5 := vb.cell 5
    have kc := vc.cell 0
    have g0 := vb.froz 0
    have g1 := vb.froz 1
    have g2 := vb.froz 2
    have g3 := vb.froz 3
    have g4 := vb.froz 4
    have g5 := vb.froz 5
    have gc := vc.froz 0
    simp at k0 k1 k2 k3 k4 k5 kc
    have HF := Lib.hid (And.intro bV (And.intro hat (And.intro vb vc)))
    clear hI hIx sI sIx oI oIx hi0 HE bV hf va vb vc hx hM hT hfn hat
    clear hWa ba sa xa hWb bb sb xb hW1 b1 s1 xc b12 c2 ya yb yc b2
    dsimp only
    gi_wp2_with (fail)
    obtain ⟨W9, hW9⟩ : ∃ Z, (((((((V.setCell ⟨w.heap.size + 1, 0, none⟩ (.int .i64 0)).setCell ⟨w.heap.size + 1, 1, none⟩ (.int .i64 0)).setCell ⟨w.heap.size + 1, 2, none⟩ (.int .i64 0)).setCell ⟨w.heap.size + 1, 3, none⟩ (.string ⟨#[]⟩)).setCell ⟨w.heap.size + 1, 4, none⟩ (.int .i32 0)).setCell ⟨w.heap.size + 1, 5, none⟩ (.bool false)).setCell ⟨w.heap.size + 2, 0, none⟩ (.bool false)) = Z := ⟨_, rfl⟩
    rw [hW9]
    have f9 : Fr (fun k => k = w.heap.size + 1 ∨ k = w.heap.size + 2) none none V W9 := by
      rw [← hW9]
      have h1 : ∀ (Z : World) (j : Nat) (v : Value), Fr (fun k => k = w.heap.size + 1 ∨ k = w.heap.size + 2) none none Z (Z.setCell ⟨w.heap.size + 1, j, none⟩ v) := fun Z j v => Fr.setc _ _ _ _ (.inl rfl)
      exact ((((((h1 _ _ _).trans (h1 _ _ _)).trans (h1 _ _ _)).trans (h1 _ _ _)).trans (h1 _ _ _)).trans (h1 _ _ _)).trans (Fr.setc _ _ _ _ (.inr rfl))
    have x9 : Cells W9 (w.heap.size + 1) 30 #[.int .i64 0, .int .i64 0, .int .i64 0, .string ⟨#[]⟩, .int .i32 0, .bool false] := by
      rw [← hW9]
      exact (Below.heap_setCell _ _ _ _ (fun e => by simp at e)).trans ((((((HF.out.2.2.1.set 0 (.int .i64 0)).set 1 (.int .i64 0)).set 2 (.int .i64 0)).set 3 (.string ⟨#[]⟩)).set 4 (.int .i32 0)).set 5 (.bool false))
    have c9 : Cells W9 (w.heap.size + 2) 4 #[.bool false] := by
      rw [← hW9]
      have h1 : ∀ (Z : World) (j : Nat) (v : Value), Cells Z (w.heap.size + 2) 4 #[.bool false] → Cells (Z.setCell ⟨w.heap.size + 1, j, none⟩ v) (w.heap.size + 2) 4 #[.bool false] := fun Z j v h => (Below.heap_setCell _ _ _ _ (fun e => by simp at e)).trans h
      exact (h1 _ _ _ (h1 _ _ _ (h1 _ _ _ (h1 _ _ _ (h1 _ _ _ (h1 _ _ _ HF.out.2.2.2)))))).set 0 _
    have d9 : W9.heap[w.heap.size + 4]? = some (.deferred (some [])) := (f9.same _ (Array.getElem?_eq_some_iff.1 hKD).1 (fun h => by omega) (by simp)).trans hKD
    have b9 : Below w.heap.size w W9 := HF.out.1.trans (f9.below (B := w.heap.size) HF.out.1.size (fun k hk => by omega) (by simp))
    clear hW9 f9 k0 k1 k2 k3 k4 k5 kc g0 g1 g2 g3 g4 g5 gc hKD
    obtain ⟨P9, hP9⟩ : ∃ Z, W9.putObj (w.heap.size + 4) (.deferred none) = Z := ⟨_, rfl⟩
    have x10 : Cells P9 (w.heap.size + 1) 30 #[.int .i64 0, .int .i64 0, .int .i64 0, .string ⟨#[]⟩, .int .i32 0, .bool false] := by rw [← hP9]; exact (World.putObj_heap_other (by omega)).trans x9
    have c10 : Cells P9 (w.heap.size + 2) 4 #[.bool false] := by rw [← hP9]; exact (World.putObj_heap_other (by omega)).trans c9
    have b10 : Below w.heap.size w P9 := by
      rw [← hP9]
      exact ⟨b9.os, b9.tape, b9.output, by simpa [World.putObj] using b9.size, fun k hk => (World.putObj_heap_other (by omega)).trans (b9.block k hk)⟩
    have k0 := x10.cell 0
    have k1 := x10.cell 1
    have k2 := x10.cell 2
    have k3 := x10.cell 3
    have k4 := x10.cell 4
    have k5 := x10.cell 5
    have kc := c10.cell 0
    simp at k0 k1 k2 k3 k4 k5 kc
    refine ⟨by simp, .inl ⟨_, _, rfl, run_takeDeferred d9, ?_⟩⟩
    rw [hP9]
    refine ⟨.tuple #[tokV ((atT L i).getD tkZ), .bool (atT L i).isSome], ?_, rfl, b10⟩
    rw [HF.out.2.1]
    simp [results, Tryz.results13, go_sem, k0, k1, k2, k3, k4, k5, kc, tokV, tokC, tkZ, G.u8s]
  case stop =>
    intro D ob pre V hD hpre hv hf hKD
    obtain rfl : D = w.heap.size + 4 := by omega
    rw [hIx] at hv
    obtain ⟨rfl, x, hfx, vb, vc⟩ := hv
    have bV : Below w.heap.size w V := b2.trans (hf.below (B := w.heap.size) (by omega) (fun k hk => by omega) (by simp))
    have hat : atT L i = some x := find_pre hpre hfx
    have k0 := vb.cell 0
    have k1 := vb.cell 1
    have k2 := vb.cell 2
    have k3 := vb.cell 3
    have k4 := vb.cell 4
    have k5 := vb.cell 5
    have kc := vc.cell 0
    simp [tokC] at k0 k1 k2 k3 k4 k5 kc
    have HF := Lib.hid (And.intro bV (And.intro hat (And.intro vb vc)))
    clear hI hIx sI sIx oI oIx hi0 HE bV hf vb vc hx hM hT hfx hat
    clear hWa ba sa xa hWb bb sb xb hW1 b1 s1 xc b12 c2 ya yb yc b2
    dsimp only
    gi_wp2_with (fail)
    obtain ⟨W9, hW9⟩ : ∃ Z, V = Z := ⟨_, rfl⟩
    rw [hW9] at hKD HF ⊢
    have x9 := HF.out.2.2.1
    have c9 := HF.out.2.2.2
    have d9 := hKD
    have b9 := HF.out.1
    clear k0 k1 k2 k3 k4 k5 kc hW9
    obtain ⟨P9, hP9⟩ : ∃ Z, W9.putObj (w.heap.size + 4) (.deferred none) = Z := ⟨_, rfl⟩
    have x10 : Cells P9 (w.heap.size + 1) 30 (tokC x) := by rw [← hP9]; exact (World.putObj_heap_other (by omega)).trans x9
    have c10 : Cells P9 (w.heap.size + 2) 4 #[.bool true] := by rw [← hP9]; exact (World.putObj_heap_other (by omega)).trans c9
    have b10 : Below w.heap.size w P9 := by
      rw [← hP9]
      exact ⟨b9.os, b9.tape, b9.output, by simpa [World.putObj] using b9.size, fun k hk => (World.putObj_heap_other (by omega)).trans (b9.block k hk)⟩
    have k0 := x10.cell 0
    have k1 := x10.cell 1
    have k2 := x10.cell 2
    have k3 := x10.cell 3
    have k4 := x10.cell 4
    have k5 := x10.cell 5
    have kc := c10.cell 0
    simp [tokC] at k0 k1 k2 k3 k4 k5 kc
    refine ⟨by simp, .inl ⟨_, _, rfl, run_takeDeferred d9, ?_⟩⟩
    rw [hP9]
    refine ⟨.tuple #[tokV ((atT L i).getD tkZ), .bool (atT L i).isSome], ?_, rfl, b10⟩
    rw [HF.out.2.1]
    simp [results, Tryz.results13, go_sem, k0, k1, k2, k3, k4, k5, kc, tokV, tokC, tkZ, G.u8s]
end Go.Proofs.YtnedjafpjbfncaaGreatDoor

namespace Go.Proofs.YtnedjafpjbfncaaGreatDoor
open Go.RowKit Go.Shelf Go.Lib Go.Maps Go.Great
open Go.Sort (grow)
attribute [local irreducible] NR ZNR FR nmE

theorem find_step {p : TK → Bool} {L : List TK} {k : Nat} {x : TK} (h : (L.take k).find? p = none) (hx : L[k]? = some x) : (p x = false → (L.take (k + 1)).find? p = none) ∧ (p x = true → L.find? p = some x) := by
  have e : L.take (k + 1) = L.take k ++ [x] := by rw [List.take_add_one, hx]; rfl
  constructor
  · intro hp
    rw [e, List.find?_append, h]
    simp [hp]
  · intro hp
    have h2 : (L.take (k + 1)).find? p = some x := by
      rw [e, List.find?_append, h]
      simp [hp]
    exact find_pre (List.take_prefix _ _) h2
set_option maxHeartbeats 8000000 in
set_option maxRecDepth 100000 in
theorem atLaw (xs : List Nat) (A : Option Addr) (cap : Nat) (i : Int) (w : World) (hx : BY w w.heap.size xs A cap) (hM : G.MX w) (hT : S.Tabs w) (hZ : P.TZ w) :
    Calls Tryz.prog 5 #[.slice A xs.length cap, .int .i64 i] w fun e w' => e = .returned (.bool true) ∧ Below w.heap.size w w' := by
  have AW := fun W (hb : Below w.heap.size w W) => awake_any W (hM.on hM.pos hb) (hT.below hb (by have := hT.2; omega)) (hZ.below hb)
  have CA := fun (hl : xs.length ≤ 100000) W (hb : Below w.heap.size w W) => At_any xs A cap i W (hx.on hb) hl (hM.on hM.pos hb) (hT.below hb (by have := hT.2; omega))
  have CR := fun (hl : xs.length ≤ 1000) W (hb : Below w.heap.size w W) => RAll_any xs A cap W (hx.on hb) hl
  obtain ⟨L, hL⟩ : ∃ L, eachL xs = L := ⟨_, rfl⟩
  simp only [hL] at CA CR
  obtain ⟨T, OK, hTK, hOK, hQ⟩ : ∃ T OK, (atT L i).getD tkZ = T ∧ (atT L i).isSome = OK ∧ ((atT L i = some T ∧ OK = true) ∨ (atT L i = none ∧ T = tkZ ∧ OK = false)) := by
    refine ⟨_, _, rfl, rfl, ?_⟩
    cases atT L i with
    | none => exact .inr ⟨rfl, rfl, rfl⟩
    | some t => exact .inl ⟨rfl, rfl⟩
  simp only [hTK, hOK] at CA
  have hlen := hx.len
  obtain ⟨N, hN⟩ : ∃ N, xs.length = N := ⟨_, rfl⟩
  rw [hN] at hlen CA CR ⊢
  unfold tokV tokC at CA
  obtain ⟨SN, hSN⟩ : ∃ Sx : ByteArray, ⟨(G.u8s T.name).toArray⟩ = Sx := ⟨_, rfl⟩
  simp only [hSN] at CA
  have HH := Lib.hid (And.intro AW (And.intro CA (And.intro CR (And.intro hQ hSN))))
  clear AW CA CR hL hx hM hT hZ hTK hOK hQ hSN
  by_cases c : 300 < N
  · have c1 : (300 : Int) < (N : Int) := by omega
    go_enter Tryz.func5, Tryz.ntmps5
    go_wp2_with fail
    refine (HH.out.1 w (Below.refl _ _)).mono ?_
    rintro e w1 ⟨rfl, hb⟩
    go_wp2_with fail
    go_ret
    exact ⟨rfl, hb⟩
  · have c1 : decide ((300 : Int) < (N : Int)) = false := by rw [decide_eq_false_iff_not]; omega
    go_enter Tryz.func5, Tryz.ntmps5
    go_wp2_with fail
    refine (HH.out.1 w (Below.refl _ _)).mono ?_
    rintro e w1 ⟨rfl, hb1⟩
    have HB1 := Lib.hid hb1
    clear hb1
    go_wp2_with fail
    refine (HH.out.2.1 (by omega) w1 HB1.out).mono ?_
    rintro e w2 ⟨rfl, hb2⟩
    have HB2 := Lib.hid (HB1.out.trans (hb2.mono HB1.out.size))
    clear hb2 HB1
    go_wp2_with fail
    obtain ⟨Wb, hWb⟩ : ∃ V, w2.alloc (.cells #[.int .i64 (T.kind : Int), .int .i64 (T.fr : Int), .int .i64 (T.to : Int), .string SN, .int .i32 T.r, .bool T.sg] 30) = V := ⟨_, rfl⟩
    have bb : Below w2.heap.size w2 Wb := by rw [← hWb]; exact below_new _ _
    have xb : Cells Wb w2.heap.size 30 #[.int .i64 (T.kind : Int), .int .i64 (T.fr : Int), .int .i64 (T.to : Int), .string SN, .int .i32 T.r, .bool T.sg] := by rw [← hWb]; exact cells_new _ _ _
    have HX := Lib.hid (And.intro xb (HB2.out.trans (bb.mono HB2.out.size)))
    clear xb bb HB2
    rw [hWb]
    clear hWb
    refine (HH.out.2.2.1 (by omega) Wb HX.out.2).mono ?_
    rintro e w3 ⟨v, rfl, ho, hb3⟩
    obtain ⟨A3, c3, rfl, hF⟩ := FQ.of_own ho
    have hle3 := hF.le
    have hmx3 := hF.mx
    unfold maxLen at hmx3
    obtain ⟨n, hn⟩ : ∃ n, L.length = n := ⟨_, rfl⟩
    rw [hn] at hle3 ⊢
    have HB3 := Lib.hid (And.intro hF (And.intro (HX.out.1.on hb3) (And.intro (HX.out.2.trans (hb3.mono HX.out.2.size)) hn)))
    clear ho hb3 hF hn HX
    go_wp2_with fail
    go_loopw [8] (fun i8 wr => ∃ k : Nat, i8 = .int .i64 (k : Int) ∧ k ≤ n ∧ (L.take k).find? (hasB i) = none ∧ Below w3.heap.size w3 wr) (fun i8 _ => n - (RowKit.intOf i8).toNat)
    case atStart => exact ⟨0, rfl, by omega, rfl, Below.refl _ _⟩
    case round =>
      obtain ⟨k, rfl, hk, hfd, hb⟩ := hrel
      by_cases lt : k < n
      case neg =>
        have i1 : ¬ (k : Int) < (n : Int) := by omega
        rw [List.take_of_length_le (by rw [HB3.out.2.2.2]; omega)] at hfd
        rcases HH.out.2.2.2.1 with ⟨h1, _⟩ | ⟨_, h2, h3⟩
        · unfold atT at h1
          rw [hfd] at h1
          cases h1
        · have xr := HB3.out.2.1.on hb
          rw [h2] at xr
          have x0 : wr.cell? ⟨w2.heap.size, 0, none⟩ = some (.int .i64 0) := xr.cell 0
          have x2 : wr.cell? ⟨w2.heap.size, 2, none⟩ = some (.int .i64 0) := xr.cell 2
          have HE := Lib.hid (HB3.out.2.2.1.trans (hb.mono HB3.out.2.2.1.size))
          subst h3
          clear hb xr hfd h2
          go_wp2_with fail
          go_ret
          exact ⟨rfl, HE.out⟩
      case pos =>
        have i1 : (k : Int) < (n : Int) := by omega
        obtain ⟨x, hx⟩ : ∃ x, L[k]? = some x := ⟨_, List.getElem?_eq_getElem (by rw [HB3.out.2.2.2]; exact lt)⟩
        obtain ⟨b', o', hA', _, m0, m1, m2, m3, m4, m5, m6⟩ := (HB3.out.1.below hb).r k x hx
        have hst := find_step hfd hx
        subst hA'
        by_cases g1 : (x.fr : Int) ≤ i
        case neg =>
          have hp : hasB i x = false := by unfold hasB; rw [decide_eq_false g1]; rfl
          have HR := Lib.hid (And.intro (hst.1 hp) hb)
          rw [← Nat.add_assoc] at m1
          clear hp hst hb hfd hx m0 m2 m3 m4 m5 m6
          go_wp2_with fail
          exact ⟨⟨k + 1, by go_num, by omega, HR.out.1, HR.out.2⟩, by simp [RowKit.intOf]; omega⟩
        case pos =>
          by_cases g2 : i < (x.to : Int)
          case neg =>
            have hp : hasB i x = false := by unfold hasB; rw [decide_eq_false g2]; simp
            have HR := Lib.hid (And.intro (hst.1 hp) hb)
            rw [← Nat.add_assoc] at m1 m2
            clear hp hst hb hfd hx m0 m3 m4 m5 m6
            go_wp2_with fail
            exact ⟨⟨k + 1, by go_num, by omega, HR.out.1, HR.out.2⟩, by simp [RowKit.intOf]; omega⟩
          case pos =>
            have hp : hasB i x = true := by unfold hasB; rw [decide_eq_true g1, decide_eq_true g2]; rfl
            have hat := hst.2 hp
            rcases HH.out.2.2.2.1 with ⟨h1, h2⟩ | ⟨h1, _, _⟩
            case inr =>
              unfold atT at h1
              rw [hat] at h1
              cases h1
            case inl =>
              unfold atT at h1
              rw [hat] at h1
              obtain rfl : x = T := Option.some.inj h1
              subst h2
              have hSN := HH.out.2.2.2.2
              have C1 : ∀ d os, Calls Tryz.prog 11 #[tokV x, refV x] (grow (redrawn wr d) os) fun e w'' => e = .returned (.bool true) ∧ ∃ p : Regrown, w'' = grow (redrawn wr p.d) p.os := fun d os => Calls.regrown_of (Is_same x _)
              unfold tokV tokC refV at C1
              rw [hSN] at C1 m3
              have xr := HB3.out.2.1.on hb
              have n1 := m1
              have n2 := m2
              rw [← Nat.add_assoc] at n1 n2
              have k0 := xr.cell 0
              have k1 := xr.cell 1
              have k2 := xr.cell 2
              have k3 := xr.cell 3
              have k4 := xr.cell 4
              have k5 := xr.cell 5
              simp at k0 k1 k2 k3 k4 k5
              have z0 := cell_regrown k0
              have z1 := cell_regrown k1
              have z2 := cell_regrown k2
              have z3 := cell_regrown k3
              have z4 := cell_regrown k4
              have z5 := cell_regrown k5
              have y0 := cell_regrown m0
              have y1 := cell_regrown m1
              have y2 := cell_regrown m2
              have y3 := cell_regrown m3
              have y4 := cell_regrown m4
              have y5 := cell_regrown m5
              have y6 := cell_regrown m6
              have y1' := m1
              rw [← Nat.add_assoc] at y1'
              replace y1' := cell_regrown y1'
              have y2' := m2
              rw [← Nat.add_assoc] at y2'
              replace y2' := cell_regrown y2'
              have y3' := m3
              rw [← Nat.add_assoc] at y3'
              replace y3' := cell_regrown y3'
              have y4' := m4
              rw [← Nat.add_assoc] at y4'
              replace y4' := cell_regrown y4'
              have y5' := m5
              rw [← Nat.add_assoc] at y5'
              replace y5' := cell_regrown y5'
              have y6' := m6
              rw [← Nat.add_assoc] at y6'
              replace y6' := cell_regrown y6'
              have HK := Lib.hid (HB3.out.2.2.1.trans (hb.mono HB3.out.2.2.1.size))
              clear k0 k1 k2 k3 k4 k5 m0 m1 m2 m3 m4 m5 m6 hSN hx hb h1 hat hst hp hfd xr
              go_wp2_with fail
              refine wp_region_quiet_below (by kernel_rfl) (by kernel_rfl) ?_
              repeat (go_big_quiet_step (exact C1 _ _))
              refine wpQuiet_nil ?_
              intro _ hw'
              obtain ⟨⟨dq, osq⟩, hw''⟩ := hw'
              subst hw''
              have HB := Lib.hid (HK.out.trans ((below_regrown wr dq osq).mono HK.out.size))
              clear z0 z1 z2 z3 z4 z5 y0 y1 y2 y3 y4 y5 y6 y1' y2' y3' y4' y5' y6' C1
              go_wp2_with fail
              go_ret
              exact ⟨rfl, HB.out⟩
end Go.Proofs.YtnedjafpjbfncaaGreatDoor

namespace Go.Proofs.YtnedjafpjbfncaaGreatDoor
open Go.ChangeShapes Go.WideShapes Go.ChangeAt Go.RowKit Go.Shelf
open Go.Lib
open Go.ChangeMaps (open_string shut_string)

set_option maxRecDepth 100000 in
theorem tokenAt_lifted (os : Os) (started : os.Started) (H : Type) (enc : TypeId × Value → H) :
    ReturnsInHanded {} Tryz.checked os 5 .any (fun w args => (Rows.tokenAtSpec.pre enc Tryz.prog Tryz.f5 [] false w args ∧ laidMetH Tryz.prog laidAll8 w) ∧ sizedMet enc Tryz.prog Tryz.f5 (OpenSpec.ofChange Rows.tokenAtSpec) false w args)
      (Rows.tokenAtSpec.post enc Tryz.prog Tryz.f5 false true false false) := by
  refine handed_laid (C := Tryz.checked) (X := fun w _ => laidMetH Tryz.prog laidAll8 w) (fun _ _ _ hh h => h.of_heap hh) own started (by kernel_rfl) Tryz.func5
    (ChangeSpec.witness_shaped (enc := enc) (C := Tryz.checked) (os := os) (X := fun w _ => laidMetH Tryz.prog laidAll8 w) false (World.laidAll Tryz.prog os laidAll8) #[.slice none 0 0, .int .i64 0] 8 (World.laidAll_os _ _ _)
      (World.shaped_of_ZipB (by kernel_rfl) (by kernel_rfl)) (by kernel_rfl) (by kernel_rfl) (by kernel_rfl)
      (by rw [MakeChecks.laidMetH_plain _ _ _ (by kernel_rfl)]; exact laidMet_laidAll _ (by kernel_rfl) (by kernel_rfl))) ?_
  intro W base args ds gs before hsh hval0 hW hL _
  have hval : ∀ (j : Nat) t v, Tryz.f5.params[j]? = some t → args[j]? = some v → Value.okWide Tryz.prog W .any base t v := hval0
  have hW' := hW
  obtain ⟨p, q, hA0, hV, rfl, _, _⟩ := hW
  have hA : DataW.TrodAll enc Tryz.prog W 0 (fun _ => true) true Tryz.f5.params.toList args.toList ds p := hA0
  rw [Tryz.params5] at hA hval
  obtain ⟨v0, vs0, d0, ds0, p0, q0, hargs, rfl, rfl, h0, r0⟩ := trodAll_cons hA
  obtain ⟨v1, vs1, d1, ds1, p1, q1, rfl, rfl, rfl, h1, r1⟩ := trodAll_cons r0
  obtain ⟨rfl, rfl, rfl⟩ := trodAll_nil r1
  obtain rfl : args = #[v0, v1] := by cases args; simp_all
  obtain ⟨rfl, rfl⟩ := trodVars_none hV
  have t0 := h0
  have lt0 : ∀ x ∈ p0, x.block < W.heap.size := by obtain ⟨m, hm⟩ := t0; exact DataW.trod_lt m _ _ _ hm
  obtain ⟨xs0, A0, cap0, rfl, hB0⟩ := by_of_arg (hval 0 22 v0 rfl rfl) h0
  obtain ⟨a1, rfl, rfl, rfl, w1⟩ := open_int Tryz.underlying3 (hval 1 3 v1 rfl rfl) h1
  rw [MakeChecks.laidMetH_plain _ _ _ (by kernel_rfl)] at hL
  have hT : S.Tabs W := tabs_of_reads (Lib.laidMet.reads hL (.tail _ (.tail _ (.tail _ (.tail _ (.tail _ (.tail _ (.tail _ (.head _))))))))) (Lib.laidMet.reads hL (.tail _ (.tail _ (.tail _ (.head _)))))
  have hZ : P.TZ W := tz_of_reads (Lib.laidMet.reads hL (.tail _ (.head _)))
  have hPT : PT W := pt_of_reads (Lib.laidMet.reads hL (.tail _ (.tail _ (.head _))))
  have hM : G.MX W := mx_of_shape hsh
  clear hA0 hval0
  refine (atLaw xs0 A0 cap0 a1 W hB0 hM hT hZ).mono fun e W' ⟨he, bel⟩ => ?_
  subst he
  exact ⟨_, rfl, _, _, _, [], _, [], hW', trodAll_mk1 (shut_bool Tryz.underlying4 _), (trodAll_cons_mk (Below.trod laidOut (by kernel_rfl) (of_decide_eq_true (by kernel_rfl)) t0 bel lt0) (trodAll_cons_mk (shut_int Tryz.underlying3 w1) trodAll_mk0)), rfl, bel.frame _, fun h => by cases h⟩

theorem tokenAt_row : Rows.TokenAtSaid :=
  OpenClaim.holds_of_wide 5 Tryz.f5 rfl rfl rfl rfl rfl rfl rfl ⟨rfl, rfl, rfl, rfl, rfl⟩ rfl rfl rfl rfl rfl (by kernel_rfl) Tryz.func5 (by kernel_rfl)
    (of_decide_eq_true (by kernel_rfl)) (by unfold Func.isWrapper; first | (rw [if_pos (by decide +kernel)]; kernel_rfl) | (rw [if_neg (by decide +kernel)]; exact ⟨rfl, rfl⟩))
    (fun os started H enc _ => tokenAt_lifted os started H enc)

/-- THE STATEMENT. -/
theorem tokenAt_holds : Rows.TokenAtCardSaid :=
  Claim7.holds_tied_plain_at .later [] [.data, .data, .data, .data, .sentinel, .sentinel, .pinned, .pinned] true (true, "58902377a7983df7a674fc44eaab2a8449d52dd4ee6546e63f76fbf255702d0f") true
    tokenAt_row (fun _ h => by cases h) (by kernel_rfl) (fun _ h => by cases h) tokenAt_row_tie rfl ⟨rfl, rfl⟩ (by kernel_rfl) rfl
    (fun f fn hf hfn => by
      obtain rfl : f = 5 := Option.some.inj ((show Tryz.prog.funcNamed Rows.tokenAtRow.func = some 5 by kernel_rfl).symm.trans hf) |>.symm
      obtain rfl : fn = Tryz.f5 := (Option.some.inj (Tryz.func5.symm.trans hfn)).symm
      exact ⟨by kernel_rfl, fun j t ht => by
        rw [Tryz.params5] at ht
        have hm : t ∈ [22, 3] := by simpa using Array.mem_of_getElem? ht
        have hall : ([22, 3].all fun u => !Tryz.prog.wantsStandIn u) = true := by kernel_rfl
        exact (show Tryz.prog.wantsStandIn t = false by simpa using List.all_eq_true.1 hall t hm)⟩)
    (by kernel_rfl)
#print axioms tokenAt_holds
end Go.Proofs.YtnedjafpjbfncaaGreatDoor

