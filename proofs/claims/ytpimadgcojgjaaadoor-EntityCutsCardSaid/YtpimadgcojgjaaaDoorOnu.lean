/-
  Contracts: strconv.ParseInt of digits, entity.ofNumber, what is asked of a number's bytes, entity.numeric, entity.styles.
-/
import Derived.Test.YtpimadgcojgjaaaDoorDig
import Derived.Laws.EntriesVeiled
import Derived.Great.BuildSlice
namespace Go.Proofs.YtpimadgcojgjaaaDoor
open Go.RowKit Go.Shelf Go.Lib Go.Maps Go.Great
attribute [local irreducible] NR ZNR FR nmE

theorem mnR_num {b : Nat} (hb : b = 10 ∨ b = 16) (l : List Nat) (h : ∀ x ∈ l, x < 256 ∧ dgB b x = true) (hm : l.length ≤ if b = 10 then 7 else 6) : nbV b l 0 < 16777216 := by
  have h1 := nbV_lt hb l 0 0 h (by rcases hb with rfl | rfl <;> decide)
  rcases hb with rfl | rfl
  · have h3 : 10 ^ (0 + l.length) ≤ 10 ^ 7 := Nat.pow_le_pow_right (by decide) (by simp at hm; omega)
    have h4 : (10 : Nat) ^ 7 = 10000000 := by decide
    omega
  · have h3 : 16 ^ (0 + l.length) ≤ 16 ^ 6 := Nat.pow_le_pow_right (by decide) (by simp at hm; omega)
    have h4 : (16 : Nat) ^ 6 = 16777216 := by decide
    omega
set_option maxHeartbeats 4000000 in
set_option maxRecDepth 100000 in
theorem pi16_any (s : ByteArray) (n : Int) (hs : s.size ≤ 1000000) (h : S.piE s.data.toList = .ok n) (w : World) :
    Calls Tryd.prog 83 #[.string s, .int .i64 16, .int .i64 32] w fun e w' => e = .returned (.tuple #[.int .i64 n, .nilIface]) ∧ Below w.heap.size w w' := by
  have C := Lib.hid (S.pii_any s w hs)
  rw [h] at C
  clear h
  go_enter Tryd.func83, Tryd.ntmps83
  go_wp2_with fail
  refine C.out.mono ?_
  rintro e w1 ⟨v, ev, rfl, ⟨v0, v1, rfl, rfl⟩, hb⟩
  go_wp2_with fail
  refine bodyPost_ret (v := .tuple #[.int .i64 v, .nilIface]) ?_ rfl ⟨rfl, hb⟩
  simp [results, Tryd.results83, go_sem]
theorem below_bytes5 (w : World) (t : ByteArray) : Below w.heap.size w (Lib.bytesWorld w 5 t) := ⟨rfl, rfl, rfl, by rw [Lib.bytesWorld_size]; omega, fun k hk => Lib.bytesWorld_at_old w 5 t k (by omega)⟩
theorem pi_any {b : Nat} (hb : b = 10 ∨ b = 16) (l : List Nat) (h : ∀ x ∈ l, x < 256 ∧ dgB b x = true) (h0 : l ≠ []) (hm : l.length ≤ if b = 10 then 7 else 6) (w : World) :
    Calls Tryd.prog 83 #[.string ⟨(u8s l).toArray⟩, .int .i64 (b : Int), .int .i64 32] w fun e w' => e = .returned (.tuple #[.int .i64 (nbV b l 0 : Nat), .nilIface]) ∧ Below w.heap.size w w' := by
  have hn : nats (u8s l) = l := nats_u8s l fun x hx => (h x hx).1
  have hl : (u8s l).length = l.length := by have := congrArg List.length hn; simpa [nats] using this
  have hne : u8s l ≠ [] := by
    intro e
    apply h0
    have := hn
    rw [e] at this
    exact this.symm
  rcases hb with rfl | rfl
  · have C := Tryd.strconv_ParseInt_10_at32_ok ⟨(u8s l).toArray⟩ (by show (u8s l).length ≤ _; simp at hm; omega) (nbV 10 l 0 : Nat) (by
      have := piB_num (u8s l) (by rw [hn]; exact h) hne (by rw [hl]; simpa using hm)
      rw [hn] at this
      exact this) w
    refine C.mono ?_
    rintro e w' ⟨rfl, rfl | ⟨t, rfl⟩⟩
    · exact ⟨rfl, Below.refl _ _⟩
    · exact ⟨rfl, below_bytes5 w t⟩
  · exact pi16_any ⟨(u8s l).toArray⟩ _ (by show (u8s l).length ≤ _; simp at hm; omega) (by
      have := piE_num (u8s l) (by rw [hn]; exact h) hne (by rw [hl]; simpa using hm)
      rw [hn] at this
      exact this) w

set_option maxHeartbeats 4000000 in
set_option maxRecDepth 100000 in
theorem ofNum_any {b : Nat} (hb : b = 10 ∨ b = 16) (l : List Nat) (h : ∀ x ∈ l, x < 256 ∧ dgB b x = true) (h0 : l ≠ []) (hm : l.length ≤ if b = 10 then 7 else 6) (w : World) (hT : S.Tabs w) :
    Calls Tryd.prog 70 #[.string ⟨(u8s l).toArray⟩, .int .i64 (b : Int)] w fun e w' => e = .returned (.int .i32 (mnR (nbV b l 0))) ∧ Below w.heap.size w w' := by
  have C := pi_any hb l h h0 hm w
  have hlt := mnR_num hb l h hm
  generalize nbV b l 0 = n at *
  have HC := Lib.hid (And.intro C hT)
  clear C hT hm h0 h hb
  go_enter Tryd.func70, Tryd.ntmps70
  go_wp2_with fail
  refine HC.out.1.mono ?_
  rintro e w1 ⟨rfl, hb1⟩
  have hT1 : S.Tabs w1 := HC.out.2.below hb1 HC.out.2.2
  by_cases hn : n = 0
  case pos =>
    subst hn
    go_wp2_with fail
    go_ret
    exact ⟨rfl, hb1⟩
  case neg =>
    have hz : ¬ (n : Int) = 0 := by omega
    have C2 := nearest_any (n : Int) (by omega) (by omega) w1 hT1
    have HB := Lib.hid hb1
    have hw : IntKind.i32.wrap (n : Int) = (n : Int) := IntWalk.i32_in _ ⟨by omega, by omega⟩
    clear hb1 hT1
    go_wp2_with fail
    refine C2.mono ?_
    rintro e w2 ⟨rfl, hb2⟩
    have hbz := HB.out.trans (hb2.mono HB.out.size)
    go_wp2_with fail
    go_ret
    refine ⟨?_, hbz⟩
    rw [mnR, if_neg hn]
    rfl

set_option maxHeartbeats 4000000 in
set_option maxRecDepth 100000 in
theorem means_any {b : Nat} (hb : b = 10 ∨ b = 16) (l : List Nat) (A : Option Addr) (cap : Nat) (h : ∀ x ∈ l, dgB b x = true) (h0 : l ≠ []) (hm : l.length ≤ if b = 10 then 7 else 6) (g : Nat) (w : World) (hT : S.Tabs w) (hu : BY w w.heap.size l A cap) (hc : Cells w g 3 #[.int .i64 (b : Int)]) :
    Calls Tryd.prog 69 #[.slice A l.length cap, .pointer (some ⟨g, 0, none⟩)] w fun e w' => e = .returned (.int .i32 (mnR (nbV b l 0))) ∧ Below w.heap.size w w' := by
  have C := Lib.hid (ofNum_any hb l (fun x hx => ⟨hu.i x hx, h x hx⟩) h0 hm w hT)
  have hcv := conv_by hu
  have q0 := hc.cell 0
  simp at q0
  clear h0 hm hT hb h
  go_enter Tryd.func69, Tryd.ntmps69
  go_wp2_with fail
  refine C.out.mono ?_
  rintro e w1 ⟨rfl, hb1⟩
  go_wp2_with fail
  go_ret
  exact ⟨rfl, hb1⟩
/-- May a byte follow a number's digits so far? -/
def mayD (b most : Nat) (l : List Nat) (c : Nat) : Bool := if c = 59 then decide (0 < l.length) else decide (l.length < most) && dgB b c
set_option maxHeartbeats 4000000 in
set_option maxRecDepth 100000 in
theorem mayD_any {b : Nat} (hb : b = 10 ∨ b = 16) (most : Nat) (l : List Nat) (A : Option Addr) (cap c : Nat) (hl : l.length ≤ 9223372036854775807) (g0 g1 : Nat) (w : World) (h0 : Cells w g0 3 #[.int .i64 (most : Int)]) (h1 : Cells w g1 3 #[.int .i64 (b : Int)]) :
    Calls Tryd.prog 67 #[.slice A l.length cap, .int .u8 (c : Int), .pointer (some ⟨g0, 0, none⟩), .pointer (some ⟨g1, 0, none⟩)] w fun e w' => e = .returned (.bool (mayD b most l c)) ∧ w' = w := by
  have C := Lib.hid (isDigit_any c b hb w)
  have q0 := h0.cell 0
  have q1 := h1.cell 0
  simp at q0 q1
  clear hb
  go_enter Tryd.func67, Tryd.ntmps67
  by_cases hc : c = 59
  case pos =>
    subst hc
    go_wp2_with fail
    go_ret
    refine ⟨?_, rfl⟩
    simp [mayD]
  case neg =>
    have hc1 : ¬ (c : Int) = 59 := by omega
    have hc2 : ((c : Int) == 59) = false := by simp; omega
    by_cases hlt : (l.length : Int) < (most : Int)
    case neg =>
      go_wp2_with fail
      go_ret
      refine ⟨?_, rfl⟩
      simp [mayD, hc]
      omega
    case pos =>
      go_wp2_with fail
      refine C.out.mono ?_
      rintro e w1 ⟨rfl, rfl⟩
      go_wp2_with fail
      go_ret
      refine ⟨?_, rfl⟩
      have : l.length < most := by omega
      simp [mayD, hc, this]
set_option maxHeartbeats 4000000 in
set_option maxRecDepth 100000 in
theorem numeric_any (s : ByteArray) (b most : Nat) (w : World) : Calls Tryd.prog 53 #[.string s, .int .i64 (b : Int), .int .i64 (most : Int)] w fun e w' => e = .returned (.agg #[.string s, .func (Fn.func 67) #[] #[.pointer (some ⟨w.heap.size + 1, 0, none⟩), .pointer (some ⟨w.heap.size, 0, none⟩)], .func (Fn.func 69) #[] #[.pointer (some ⟨w.heap.size, 0, none⟩)]]) ∧ Below w.heap.size w w' ∧ Cells w' w.heap.size 3 #[.int .i64 (b : Int)] ∧ Cells w' (w.heap.size + 1) 3 #[.int .i64 (most : Int)] := by
  have hs : ∀ (a : Addr) (f : FuncId) (c : Array Value) (m : Mode) (W : World), (store a (.func (Fn.func f) #[] c) m).run Tryd.prog W = stored Tryd.prog W a (.func (Fn.func f) #[] c) m := fun a f c m W => run_store_func Tryd.prog W a m _ _ _
  go_enter Tryd.func53, Tryd.ntmps53
  go_wp2_with fail
  refine bodyPost_ret (v := .agg #[.string s, .func (Fn.func 67) #[] #[.pointer (some ⟨w.heap.size + 1, 0, none⟩), .pointer (some ⟨w.heap.size, 0, none⟩)], .func (Fn.func 69) #[] #[.pointer (some ⟨w.heap.size, 0, none⟩)]]) ?_ rfl ⟨rfl, ?_, ?_, ?_⟩
  · simp [results, Tryd.results53, go_sem]
  · exact ((below_new w _).alloc (by simp) _).alloc (by simp; omega) _
  · exact (((cells_new w #[.int .i64 (b : Int)] 3).on (below_new _ _)).on (below_new _ _))
  · have := (cells_new (w.alloc (.cells #[.int .i64 (b : Int)] 3)) #[.int .i64 (most : Int)] 3).on (below_new _ (.cells #[.string s, .func (Fn.func 67) #[] #[.pointer (some ⟨w.heap.size + 1, 0, none⟩), .pointer (some ⟨w.heap.size, 0, none⟩)], .func (Fn.func 69) #[] #[.pointer (some ⟨w.heap.size, 0, none⟩)]] 61))
    simpa using this
/-- The styles, as a value. -/
def numF (beg : List UInt8) (g : Nat) : List Value := [.string ⟨beg.toArray⟩, .func (Fn.func 67) #[] #[.pointer (some ⟨g + 1, 0, none⟩), .pointer (some ⟨g, 0, none⟩)], .func (Fn.func 69) #[] #[.pointer (some ⟨g, 0, none⟩)]]
def namZ : List Value := [.string ⟨#[]⟩, .nilFunc, .nilFunc]
def namF : List Value := [.string ⟨#[38]⟩, .func (Fn.func 51) #[] #[], .func (Fn.func 52) #[] #[]]
def stysV (g1 g2 g3 : Nat) : Value := .agg (namF ++ (numF [38, 35] g1 ++ (numF [38, 35, 120] g2 ++ numF [38, 35, 88] g3))).toArray
structure StyAt (w : World) (g b most : Nat) : Prop where
  b : Cells w g 3 #[.int .i64 (b : Int)]
  m : Cells w (g + 1) 3 #[.int .i64 (most : Int)]
theorem StyAt.on {w w' : World} {g b most : Nat} (h : StyAt w g b most) (hb : Below w.heap.size w w') : StyAt w' g b most := ⟨h.b.on hb, h.m.on hb⟩
set_option maxHeartbeats 4000000 in
set_option maxRecDepth 100000 in
theorem styles_any (w : World) : Calls Tryd.prog 34 #[] w fun e w' => ∃ g1 g2 g3, e = .returned (stysV g1 g2 g3) ∧ Below w.heap.size w w' ∧ StyAt w' g1 10 7 ∧ StyAt w' g2 16 6 ∧ StyAt w' g3 16 6 := by
  have hs : ∀ (a : Addr) (f : FuncId) (c : Array Value) (m : Mode) (W : World), (store a (.func (Fn.func f) #[] c) m).run Tryd.prog W = stored Tryd.prog W a (.func (Fn.func f) #[] c) m := fun a f c m W => run_store_func Tryd.prog W a m _ _ _
  go_enter Tryd.func34, Tryd.ntmps34
  go_wp2_with fail
  refine (numeric_any _ 10 7 _).mono ?_
  rintro r w1 ⟨rfl, hb1, c1, d1⟩
  have s1 := hb1.size
  go_wp2_with fail
  refine (numeric_any _ 16 6 _).mono ?_
  rintro r w2 ⟨rfl, hb2, c2, d2⟩
  go_wp2_with fail
  refine (numeric_any _ 16 6 _).mono ?_
  rintro r w3 ⟨rfl, hb3, c3, d3⟩
  have b23 := hb2.trans (hb3.mono hb2.size)
  have b13 := hb1.trans (b23.mono hb1.size)
  have x0 : Cells w3 w.heap.size 62 (namZ ++ (namZ ++ (namZ ++ namZ))).toArray := (cells_new w _ 62).on b13
  have S1 : StyAt w3 (w.heap.size + 1) 10 7 := StyAt.on ⟨by simpa using c1, by simpa using d1⟩ b23
  have S2 : StyAt w3 w1.heap.size 16 6 := StyAt.on ⟨c2, d2⟩ hb3
  have S3 : StyAt w3 w2.heap.size 16 6 := ⟨c3, d3⟩
  have hb : Below w.heap.size w w3 := (below_new w _).trans (b13.mono (by simp))
  have hl1 : w.heap.size < w1.heap.size := by simp at s1; omega
  have hl2 : w.heap.size < w2.heap.size := Nat.lt_of_lt_of_le hl1 hb2.size
  rename_i Qx Kx ax Ky ay
  dsimp only
  refine ay _ _ ?_
  refine wpList_buildTo rfl 62 _ rfl (some 5) rfl (namF ++ (numF [38, 35] (w.heap.size + 1) ++ (numF [38, 35, 120] w1.heap.size ++ numF [38, 35, 88] w2.heap.size))).toArray (by as_aux_lemma => kernel_rfl) ?_
  refine wpList_store_row rfl 62 (.tmp 0) (.tmp 5) rfl w.heap.size (namF ++ (numF [38, 35] (w.heap.size + 1) ++ (numF [38, 35, 120] w1.heap.size ++ numF [38, 35, 88] w2.heap.size))).toArray rfl rfl 62 _ x0 (by as_aux_lemma => kernel_rfl) (by as_aux_lemma => kernel_rfl) (by as_aux_lemma => kernel_rfl) ?_
  apply wpList_nil
  generalize hv : (namF ++ (numF [38, 35] (w.heap.size + 1) ++ (numF [38, 35, 120] w1.heap.size ++ numF [38, 35, 88] w2.heap.size))).toArray = V
  have hV : V.size = 12 := by rw [← hv]; rfl
  refine ax _ _ ?_
  refine wp_ret ?_
  have hz : (w3.setRow w.heap.size V).heap[w.heap.size]? = some (.cells V 62 (0, 0)) := setRow_heap _ _ _ _ _ _ x0
  have hbz : Below w.heap.size w (w3.setRow w.heap.size V) := below_setRow hb (Nat.le_refl _) _
  have oth : ∀ g t cs, g ≠ w.heap.size → Cells w3 g t cs → Cells (w3.setRow w.heap.size V) g t cs := fun g t cs hne h => (setRow_other _ _ _ _ (by omega)).trans h
  refine bodyPost_ret (v := .agg V) (results_cell_row rfl _ _ w.heap.size 62 V (0, 0) (.array 4 61) rfl hz (by as_aux_lemma => kernel_rfl) rfl (by rw [hV]; as_aux_lemma => kernel_rfl)) rfl ⟨w.heap.size + 1, w1.heap.size, w2.heap.size, by rw [← hv]; rfl, hbz, ⟨oth _ _ _ (by omega) S1.b, oth _ _ _ (by omega) S1.m⟩, ⟨oth _ _ _ (by omega) S2.b, oth _ _ _ (by omega) S2.m⟩, ⟨oth _ _ _ (by omega) S3.b, oth _ _ _ (by omega) S3.m⟩⟩
end Go.Proofs.YtpimadgcojgjaaaDoor
