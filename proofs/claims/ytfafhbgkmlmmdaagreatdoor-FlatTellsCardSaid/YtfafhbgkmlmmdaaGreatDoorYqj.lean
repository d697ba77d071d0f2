/-
  What the rows of flat lean on, part j.
-/
import Derived.Test.YtfafhbgkmlmmdaaGreatDoorYqi
import Derived.Laws.EntriesVeiled
import Derived.Great.BuildSlice
import Derived.Lib.QuietBelow
import Derived.BigQuiet
import Derived.Test.YtfafhbgkmlmmdaaGreatDoorYqh
set_option maxRecDepth 100000
set_option maxHeartbeats 40000000
namespace Go.Proofs.YtfafhbgkmlmmdaaGreatDoor
open Go.RowKit Go.Shelf Go.Lib Go.Maps Go.Great
attribute [local irreducible] NR ZNR FR nmE
theorem mnR_num {b : Nat} (hb : b = 10 ∨ b = 16) (l : List Nat) (h : ∀ x ∈ l, x < 256 ∧ dgB b x = true) (hm : l.length ≤ if b = 10 then 7 else 6) : nbV b l 0 < 16777216 := by
 have h1 := nbV_lt hb l 0 0 h (by rcases hb with rfl | rfl <;> decide)
 rcases hb with rfl | rfl
 ·have h3 : 10 ^ (0 + l.length) ≤ 10 ^ 7 := Nat.pow_le_pow_right (by decide) (by simp at hm; omega)
  have h4 : (10 : Nat) ^ 7 = 10000000 := by decide
  omega
 ·have h3 : 16 ^ (0 + l.length) ≤ 16 ^ 6 := Nat.pow_le_pow_right (by decide) (by simp at hm; omega)
  have h4 : (16 : Nat) ^ 6 = 16777216 := by decide
  omega
theorem pi16_any (s : ByteArray) (n : Int) (hs : s.size ≤ 1000000) (h : S.piE s.data.toList = .ok n) (w : World) :
  Calls Tryz.prog 225 #[.string s, .int .i64 16, .int .i64 32] w fun e w' => e = .returned (.tuple #[.int .i64 n, .nilIface]) ∧ Below w.heap.size w w' := by
 have C := Lib.hid (S.pii_any s w hs)
 rw [h] at C
 clear h
 go_enter Tryz.func225, Tryz.ntmps225
 go_wp2_with fail
 refine C.out.mono ?_
 rintro e w1 ⟨v, ev, rfl, ⟨v0, v1, rfl, rfl⟩, hb⟩
 go_wp2_with fail
 refine bodyPost_ret (v := .tuple #[.int .i64 v, .nilIface]) ?_ rfl ⟨rfl, hb⟩
 simp [results, Tryz.results225, go_sem]
theorem below_bytes5 (w : World) (t : ByteArray) : Below w.heap.size w (Lib.bytesWorld w 5 t) := ⟨rfl, rfl, rfl, by rw [Lib.bytesWorld_size]; omega, fun k hk => Lib.bytesWorld_at_old w 5 t k (by omega)⟩
theorem pi_any {b : Nat} (hb : b = 10 ∨ b = 16) (l : List Nat) (h : ∀ x ∈ l, x < 256 ∧ dgB b x = true) (h0 : l ≠ []) (hm : l.length ≤ if b = 10 then 7 else 6) (w : World) :
  Calls Tryz.prog 225 #[.string ⟨(u8s l).toArray⟩, .int .i64 (b : Int), .int .i64 32] w fun e w' => e = .returned (.tuple #[.int .i64 (nbV b l 0 : Nat), .nilIface]) ∧ Below w.heap.size w w' := by
 have hn : nats (u8s l) = l := nats_u8s l fun x hx => (h x hx).1
 have hl : (u8s l).length = l.length := by have := congrArg List.length hn; simpa [nats] using this
 have hne : u8s l ≠ [] := by
  intro e
  apply h0
  have := hn
  rw [e] at this
  exact this.symm
 rcases hb with rfl | rfl
 ·have C := Tryz.strconv_ParseInt_10_at32_ok ⟨(u8s l).toArray⟩ (by show (u8s l).length ≤ _; simp at hm; omega) (nbV 10 l 0 : Nat) (by
   have := piB_num (u8s l) (by rw [hn]; exact h) hne (by rw [hl]; simpa using hm)
   rw [hn] at this
   exact this) w
  refine C.mono ?_
  rintro e w' ⟨rfl, rfl | ⟨t, rfl⟩⟩
  ·exact ⟨rfl, Below.refl _ _⟩
  ·exact ⟨rfl, below_bytes5 w t⟩
 ·exact pi16_any ⟨(u8s l).toArray⟩ _ (by show (u8s l).length ≤ _; simp at hm; omega) (by
   have := piE_num (u8s l) (by rw [hn]; exact h) hne (by rw [hl]; simpa using hm)
   rw [hn] at this
   exact this) w
theorem ofNum_any {b : Nat} (hb : b = 10 ∨ b = 16) (l : List Nat) (h : ∀ x ∈ l, x < 256 ∧ dgB b x = true) (h0 : l ≠ []) (hm : l.length ≤ if b = 10 then 7 else 6) (w : World) (hT : S.Tabs w) :
  Calls Tryz.prog 218 #[.string ⟨(u8s l).toArray⟩, .int .i64 (b : Int)] w fun e w' => e = .returned (.int .i32 (mnR (nbV b l 0))) ∧ Below w.heap.size w w' := by
 have C := pi_any hb l h h0 hm w
 have hlt := mnR_num hb l h hm
 generalize nbV b l 0 = n at *
 have HC := Lib.hid (And.intro C hT)
 clear C hT hm h0 h hb
 go_enter Tryz.func218, Tryz.ntmps218
 go_wp2_with fail
 refine HC.out.1.mono ?_
 rintro e w1 ⟨rfl, hb1⟩
 have hT1 : S.Tabs w1 := HC.out.2.below hb1 HC.out.2.2
 by_cases hn : n = 0
 case pos =>
  subst hn
  go_wp2_with fail
  go_ret
  exact ⟨rfl, hb1⟩
 case neg =>
  have hz : ¬ (n : Int) = 0 := by omega
  have C2 := nearest_any (n : Int) (by omega) (by omega) w1 hT1
  have HB := Lib.hid hb1
  have hw : IntKind.i32.wrap (n : Int) = (n : Int) := IntWalk.i32_in _ ⟨by omega, by omega⟩
  clear hb1 hT1
  go_wp2_with fail
  refine C2.mono ?_
  rintro e w2 ⟨rfl, hb2⟩
  have hbz := HB.out.trans (hb2.mono HB.out.size)
  go_wp2_with fail
  go_ret
  refine ⟨?_, hbz⟩
  rw [mnR, if_neg hn]
  rfl
theorem means_any {b : Nat} (hb : b = 10 ∨ b = 16) (l : List Nat) (A : Option Addr) (cap : Nat) (h : ∀ x ∈ l, dgB b x = true) (h0 : l ≠ []) (hm : l.length ≤ if b = 10 then 7 else 6) (g : Nat) (w : World) (hT : S.Tabs w) (hu : BY w w.heap.size l A cap) (hc : Cells w g 3 #[.int .i64 (b : Int)]) :
  Calls Tryz.prog 217 #[.slice A l.length cap, .pointer (some ⟨g, 0, none⟩)] w fun e w' => e = .returned (.int .i32 (mnR (nbV b l 0))) ∧ Below w.heap.size w w' := by
 have C := Lib.hid (ofNum_any hb l (fun x hx => ⟨hu.i x hx, h x hx⟩) h0 hm w hT)
 have hcv := conv_by hu
 have q0 := hc.cell 0
 simp at q0
 clear h0 hm hT hb h
 go_enter Tryz.func217, Tryz.ntmps217
 go_wp2_with fail
 refine C.out.mono ?_
 rintro e w1 ⟨rfl, hb1⟩
 go_wp2_with fail
 go_ret
 exact ⟨rfl, hb1⟩
def mayD (b most : Nat) (l : List Nat) (c : Nat) : Bool := if c = 59 then decide (0 < l.length) else decide (l.length < most) && dgB b c
theorem mayD_any {b : Nat} (hb : b = 10 ∨ b = 16) (most : Nat) (l : List Nat) (A : Option Addr) (cap c : Nat) (_hl : l.length ≤ 9223372036854775807) (g0 g1 : Nat) (w : World) (h0 : Cells w g0 3 #[.int .i64 (most : Int)]) (h1 : Cells w g1 3 #[.int .i64 (b : Int)]) :
  Calls Tryz.prog 215 #[.slice A l.length cap, .int .u8 (c : Int), .pointer (some ⟨g0, 0, none⟩), .pointer (some ⟨g1, 0, none⟩)] w fun e w' => e = .returned (.bool (mayD b most l c)) ∧ w' = w := by
 have C := Lib.hid (isDigit_any c b hb w)
 have q0 := h0.cell 0
 have q1 := h1.cell 0
 simp at q0 q1
 clear hb
 go_enter Tryz.func215, Tryz.ntmps215
 by_cases hc : c = 59
 case pos =>
  subst hc
  go_wp2_with fail
  go_ret
  refine ⟨?_, rfl⟩
  simp [mayD]
 case neg =>
  have hc1 : ¬ (c : Int) = 59 := by omega
  have hc2 : ((c : Int) == 59) = false := by simp; omega
  by_cases hlt : (l.length : Int) < (most : Int)
  case neg =>
   go_wp2_with fail
   go_ret
   refine ⟨?_, rfl⟩
   simp [mayD, hc]
   omega
  case pos =>
   go_wp2_with fail
   refine C.out.mono ?_
   rintro e w1 ⟨rfl, rfl⟩
   go_wp2_with fail
   go_ret
   refine ⟨?_, rfl⟩
   have : l.length < most := by omega
   simp [mayD, hc, this]
theorem numeric_any (s : ByteArray) (b most : Nat) (w : World) : Calls Tryz.prog 198 #[.string s, .int .i64 (b : Int), .int .i64 (most : Int)] w fun e w' => e = .returned (.agg #[.string s, .func (Fn.func 215) #[] #[.pointer (some ⟨w.heap.size + 1, 0, none⟩), .pointer (some ⟨w.heap.size, 0, none⟩)], .func (Fn.func 217) #[] #[.pointer (some ⟨w.heap.size, 0, none⟩)]]) ∧ Below w.heap.size w w' ∧ Cells w' w.heap.size 3 #[.int .i64 (b : Int)] ∧ Cells w' (w.heap.size + 1) 3 #[.int .i64 (most : Int)] := by
 have hs : ∀ (a : Addr) (f : FuncId) (c : Array Value) (m : Mode) (W : World), (store a (.func (Fn.func f) #[] c) m).run Tryz.prog W = stored Tryz.prog W a (.func (Fn.func f) #[] c) m := fun a f c m W => run_store_func Tryz.prog W a m _ _ _
 go_enter Tryz.func198, Tryz.ntmps198
 go_wp2_with fail
 refine bodyPost_ret (v := .agg #[.string s, .func (Fn.func 215) #[] #[.pointer (some ⟨w.heap.size + 1, 0, none⟩), .pointer (some ⟨w.heap.size, 0, none⟩)], .func (Fn.func 217) #[] #[.pointer (some ⟨w.heap.size, 0, none⟩)]]) ?_ rfl ⟨rfl, ?_, ?_, ?_⟩
 ·simp [results, Tryz.results198, go_sem]
 ·exact ((below_new w _).alloc (by simp) _).alloc (by simp; omega) _
 ·exact (((cells_new w #[.int .i64 (b : Int)] 3).on (below_new _ _)).on (below_new _ _))
 ·have := (cells_new (w.alloc (.cells #[.int .i64 (b : Int)] 3)) #[.int .i64 (most : Int)] 3).on (below_new _ (.cells #[.string s, .func (Fn.func 215) #[] #[.pointer (some ⟨w.heap.size + 1, 0, none⟩), .pointer (some ⟨w.heap.size, 0, none⟩)], .func (Fn.func 217) #[] #[.pointer (some ⟨w.heap.size, 0, none⟩)]] 228))
  simpa using this
def numF (beg : List UInt8) (g : Nat) : List Value := [.string ⟨beg.toArray⟩, .func (Fn.func 215) #[] #[.pointer (some ⟨g + 1, 0, none⟩), .pointer (some ⟨g, 0, none⟩)], .func (Fn.func 217) #[] #[.pointer (some ⟨g, 0, none⟩)]]
def namZ : List Value := [.string ⟨#[]⟩, .nilFunc, .nilFunc]
def namF : List Value := [.string ⟨#[38]⟩, .func (Fn.func 196) #[] #[], .func (Fn.func 197) #[] #[]]
def stysV (g1 g2 g3 : Nat) : Value := .agg (namF ++ (numF [38, 35] g1 ++ (numF [38, 35, 120] g2 ++ numF [38, 35, 88] g3))).toArray
structure StyAt (w : World) (g b most : Nat) : Prop where
 b : Cells w g 3 #[.int .i64 (b : Int)]
 m : Cells w (g + 1) 3 #[.int .i64 (most : Int)]
theorem StyAt.on {w w' : World} {g b most : Nat} (h : StyAt w g b most) (hb : Below w.heap.size w w') : StyAt w' g b most := ⟨h.b.on hb, h.m.on hb⟩
theorem styles_any (w : World) : Calls Tryz.prog 170 #[] w fun e w' => ∃ g1 g2 g3, e = .returned (stysV g1 g2 g3) ∧ Below w.heap.size w w' ∧ StyAt w' g1 10 7 ∧ StyAt w' g2 16 6 ∧ StyAt w' g3 16 6 := by
 have hs : ∀ (a : Addr) (f : FuncId) (c : Array Value) (m : Mode) (W : World), (store a (.func (Fn.func f) #[] c) m).run Tryz.prog W = stored Tryz.prog W a (.func (Fn.func f) #[] c) m := fun a f c m W => run_store_func Tryz.prog W a m _ _ _
 go_enter Tryz.func170, Tryz.ntmps170
 go_wp2_with fail
 refine (numeric_any _ 10 7 _).mono ?_
 rintro r w1 ⟨rfl, hb1, c1, d1⟩
 have s1 := hb1.size
 go_wp2_with fail
 refine (numeric_any _ 16 6 _).mono ?_
 rintro r w2 ⟨rfl, hb2, c2, d2⟩
 go_wp2_with fail
 refine (numeric_any _ 16 6 _).mono ?_
 rintro r w3 ⟨rfl, hb3, c3, d3⟩
 have b23 := hb2.trans (hb3.mono hb2.size)
 have b13 := hb1.trans (b23.mono hb1.size)
 have x0 : Cells w3 w.heap.size 229 (namZ ++ (namZ ++ (namZ ++ namZ))).toArray := (cells_new w _ 229).on b13
 have S1 : StyAt w3 (w.heap.size + 1) 10 7 := StyAt.on ⟨by simpa using c1, by simpa using d1⟩ b23
 have S2 : StyAt w3 w1.heap.size 16 6 := StyAt.on ⟨c2, d2⟩ hb3
 have S3 : StyAt w3 w2.heap.size 16 6 := ⟨c3, d3⟩
 have hb : Below w.heap.size w w3 := (below_new w _).trans (b13.mono (by simp))
 have hl1 : w.heap.size < w1.heap.size := by simp at s1; omega
 have hl2 : w.heap.size < w2.heap.size := Nat.lt_of_lt_of_le hl1 hb2.size
 rename_i Qx Kx ax Ky ay
 dsimp only
 refine ay _ _ ?_
 refine wpList_buildTo rfl 229 _ rfl (some 5) rfl (namF ++ (numF [38, 35] (w.heap.size + 1) ++ (numF [38, 35, 120] w1.heap.size ++ numF [38, 35, 88] w2.heap.size))).toArray (by as_aux_lemma => kernel_rfl) ?_
 refine wpList_store_row rfl 229 (.tmp 0) (.tmp 5) rfl w.heap.size (namF ++ (numF [38, 35] (w.heap.size + 1) ++ (numF [38, 35, 120] w1.heap.size ++ numF [38, 35, 88] w2.heap.size))).toArray rfl rfl 229 _ x0 (by as_aux_lemma => kernel_rfl) (by as_aux_lemma => kernel_rfl) (by as_aux_lemma => kernel_rfl) ?_
 apply wpList_nil
 generalize hv : (namF ++ (numF [38, 35] (w.heap.size + 1) ++ (numF [38, 35, 120] w1.heap.size ++ numF [38, 35, 88] w2.heap.size))).toArray = V
 have hV : V.size = 12 := by rw [← hv]; rfl
 refine ax _ _ ?_
 refine wp_ret ?_
 have hz : (w3.setRow w.heap.size V).heap[w.heap.size]? = some (.cells V 229 (0, 0)) := setRow_heap _ _ _ _ _ _ x0
 have hbz : Below w.heap.size w (w3.setRow w.heap.size V) := below_setRow hb (Nat.le_refl _) _
 have oth : ∀ g t cs, g ≠ w.heap.size → Cells w3 g t cs → Cells (w3.setRow w.heap.size V) g t cs := fun g t cs hne h => (setRow_other _ _ _ _ (by omega)).trans h
 refine bodyPost_ret (v := .agg V) (results_cell_row rfl _ _ w.heap.size 229 V (0, 0) (.array 4 228) rfl hz (by as_aux_lemma => kernel_rfl) rfl (by rw [hV]; as_aux_lemma => kernel_rfl)) rfl ⟨w.heap.size + 1, w1.heap.size, w2.heap.size, by rw [← hv]; rfl, hbz, ⟨oth _ _ _ (by omega) S1.b, oth _ _ _ (by omega) S1.m⟩, ⟨oth _ _ _ (by omega) S2.b, oth _ _ _ (by omega) S2.m⟩, ⟨oth _ _ _ (by omega) S3.b, oth _ _ _ (by omega) S3.m⟩⟩
end Go.Proofs.YtfafhbgkmlmmdaaGreatDoor
namespace Go.Proofs.YtfafhbgkmlmmdaaGreatDoor
open Go.RowKit Go.Shelf Go.Lib Go.Maps Go.Great
open Go.Sort (grow)
attribute [local irreducible] NR ZNR FR nmE
theorem meas_step (a n : Nat) (h : n < a) : a - (RowKit.intOf (.int .i64 ((n : Int) + 1))).toNat < a - (RowKit.intOf (.int .i64 (n : Int))).toNat := by
 simp [RowKit.intOf]
 omega
theorem isPrefixOf_map (l m : List Nat) (hl : ∀ x ∈ l, x < 256) (hm : ∀ x ∈ m, x < 256) : (u8s l).isPrefixOf (u8s m) = l.isPrefixOf m := by
 induction l generalizing m with
 | nil => rfl
 | cons a l ih =>
  cases m with
  | nil => rfl
  | cons b m =>
   have e : (UInt8.ofNat a == UInt8.ofNat b) = (a == b) := by
    rw [Bool.eq_iff_iff]
    simp only [beq_iff_eq]
    constructor
    ·intro h
     have := congrArg UInt8.toNat h
     have h1 := hl a (by simp)
     have h2 := hm b (by simp)
     simpa [Nat.mod_eq_of_lt h1, Nat.mod_eq_of_lt h2] using this
    ·rintro rfl; rfl
   show (UInt8.ofNat a == UInt8.ofNat b && (u8s l).isPrefixOf (u8s m)) = (a == b && l.isPrefixOf m)
   rw [e, ih m (fun x hx => hl x (by simp [hx])) (fun x hx => hm x (by simp [hx]))]
theorem bytesOf_cast (l : List Nat) : Lib.bytesOf (l.map fun (x : Nat) => (x : Int)) = u8s l := by
 simp [Lib.bytesOf, u8s]
theorem hasPre_any (w : World) (xs ys : List Nat) (A : Option Addr) (cap g c2 : Nat) (hx : BY w w.heap.size xs A cap) (hy : BY w w.heap.size ys (some ⟨g, 0, none⟩) c2) (h0 : ys ≠ []) :
  Calls Tryz.prog 127 #[.slice A xs.length cap, .slice (some ⟨g, 0, none⟩) ys.length c2] w fun e w' => e = .returned (.bool (ys.isPrefixOf xs)) ∧ w' = w := by
 by_cases hl : xs.length < ys.length
 case pos =>
  have hp : ys.isPrefixOf xs = false := by
   rw [Bool.eq_false_iff]
   intro h
   have := (List.isPrefixOf_iff_prefix.1 h).length_le
   omega
  rw [hp]
  have hl2 : ¬ ys.length ≤ xs.length := by omega
  clear hx hy hp h0
  go_enter Tryz.func127, Tryz.ntmps127
  go_wp2_with fail
  go_ret
  exact ⟨rfl, rfl⟩
 case neg =>
  obtain ⟨b, o, rfl, _, hc⟩ := hx.r (by rintro rfl; simp at hl; exact h0 hl)
  obtain ⟨b2, o2, e2, _, hc2⟩ := hy.r h0
  obtain ⟨rfl, rfl⟩ : g = b2 ∧ 0 = o2 := by simpa using e2
  have C := Tryz.bytes_HasPrefix b o xs.length cap g 0 ys.length c2 (xs.map fun (x : Nat) => (x : Int)) (ys.map fun (x : Nat) => (x : Int)) w (by simp) (by simp) hx.l
   (fun i hi => by rw [hc i _ (List.getElem?_eq_getElem hi)]; simp [List.getD_eq_getElem?_getD, hi])
   (fun i hi => by rw [hc2 i _ (List.getElem?_eq_getElem hi)]; simp [List.getD_eq_getElem?_getD, hi])
  rw [bytesOf_cast, bytesOf_cast, Lib.hasPrefix, isPrefixOf_map _ _ hy.i hx.i] at C
  exact C
def fol (may : List Nat → Nat → Bool) (xs : List Nat) (h : Nat) : Nat → List Nat → Nat × Bool
 | n, [] => (n, false)
 | n, c :: r => if may ((xs.take n).drop h) c then (if c = 59 then (n + 1, true) else fol may xs h (n + 1) r) else (n, false)
def followR (beg : List UInt8) (may : List Nat → Nat → Bool) (xs : List Nat) : Nat × Bool := if (nats beg).isPrefixOf xs then fol may xs beg.length beg.length (xs.drop beg.length) else (0, false)
theorem BY.win {w : World} {B : Nat} {xs : List Nat} {b o cap : Nat} (h : BY w B xs (some ⟨b, o, none⟩) cap) (l k : Nat) (hl : l ≤ k) (hk : k ≤ xs.length) : BY w B ((xs.take k).drop l) (some ⟨b, o + l, none⟩) (cap - l) :=
 ⟨(by have hh := h.l; simp; omega), (by have hh := h.m; omega), fun e => (by cases e), fun x hx => h.i x (List.mem_of_mem_take (List.mem_of_mem_drop hx)), fun hne => by
  obtain ⟨b', o', e, hlt, hr⟩ := h.r (by rintro rfl; simp at hne)
  obtain ⟨rfl, rfl⟩ : b = b' ∧ o = o' := by simpa using e
  exact ⟨b, o + l, rfl, hlt, fun i x hx => by
   rw [List.getElem?_drop, List.getElem?_take] at hx
   split at hx
   ·rw [Nat.add_assoc]
    exact hr _ x hx
   ·cases hx⟩⟩
theorem slice_win (b o len cap l h : Nat) (hlh : l ≤ h) (hh : h ≤ cap) (hc : l < cap) (W : World) :
  (Instr.slice 22 (.slice (some ⟨b, o, none⟩) len cap) (some (.int .i64 (l : Int))) (some (.int .i64 (h : Int))) none).run Tryz.prog W = .ok (.slice (some ⟨b, o + l, none⟩) (h - l) (cap - l)) W := by
 have ht : Tryz.prog.underlying 22 = some (.slice 5) := Tryz.underlying22
 have ht' : Tryz.prog.underlying 22 = some (.slice (Tryz.prog.elem 22)) := by simp [Program.elem, ht]
 have he : Tryz.prog.elem 22 = 5 := by simp [Program.elem, ht]
 have hz : ∀ w, (Go.sizeOf 5).run Tryz.prog w = .ok 1 w := fun w => by kernel_rfl
 rw [run_slice_lh W 22 _ _ _ ht' .i64 .i64 _ _ (by omega) (by omega) (by omega), he, hz]
 have hne : ¬ cap = l := by omega
 by_cases h0 : l = 0
 ·subst h0
  simp [Result.andThen, sliced, Addr.add, hne]
 ·simp [Result.andThen, sliced, Addr.add, hne, h0]
theorem fol_at {may : List Nat → Nat → Bool} {xs : List Nat} {h n c : Nat} (hx : xs[n]? = some c) : fol may xs h n (xs.drop n) = if may ((xs.take n).drop h) c then (if c = 59 then (n + 1, true) else fol may xs h (n + 1) (xs.drop (n + 1))) else (n, false) := by
 rw [drop_at hx, fol]
theorem follow67_any (w : World) (beg : List UInt8) (h1 : 1 ≤ beg.length) (h3 : beg.length ≤ 3) (may : List Nat → Nat → Bool) (pm pb : Addr) (f2 : FuncId) (c2 : Array Value) (xs : List Nat) (A : Option Addr) (cap : Nat) (hx : BY w w.heap.size xs A cap)
  (K : ∀ W, Below w.heap.size w W → ∀ b o cap' l (c : Nat), c < 256 → BY W W.heap.size l (some ⟨b, o, none⟩) cap' → Calls Tryz.prog 215 #[.slice (some ⟨b, o, none⟩) l.length cap', .int .u8 (c : Int), .pointer (some pm), .pointer (some pb)] W fun e w' => e = .returned (.bool (may l c)) ∧ Below W.heap.size W w') :
  Calls Tryz.prog 171 #[.agg #[.string ⟨beg.toArray⟩, .func (Fn.func 215) #[] #[.pointer (some pm), .pointer (some pb)], .func (Fn.func f2) #[] c2], .slice A xs.length cap] w fun e w' => e = .returned (.tuple #[.int .i64 ((followR beg may xs).1 : Nat), .bool (followR beg may xs).2]) ∧ Below w.heap.size w w' := by
 have b1 := below_new w (.cells #[.string ⟨beg.toArray⟩, .func (Fn.func 215) #[] #[.pointer (some pm), .pointer (some pb)], .func (Fn.func f2) #[] c2] 228)
 obtain ⟨cp, W4, hcv0, hR, hb4⟩ := conv_str (w.alloc (.cells #[.string ⟨beg.toArray⟩, .func (Fn.func 215) #[] #[.pointer (some pm), .pointer (some pb)], .func (Fn.func f2) #[] c2] 228)) beg (by omega)
 have hcv : (convert 9 22 (.string ⟨beg.toArray⟩)).run Tryz.prog (w.alloc (.cells #[.string ⟨beg.toArray⟩, .func (Fn.func 215) #[] #[.pointer (some pm), .pointer (some pb)], .func (Fn.func f2) #[] c2] 228)) = _ := hcv0
 have hsz : (w.alloc (.cells #[.string ⟨beg.toArray⟩, .func (Fn.func 215) #[] #[.pointer (some pm), .pointer (some pb)], .func (Fn.func f2) #[] c2] 228)).heap.size = w.heap.size + 1 := by simp
 rw [hsz] at hcv hR
 have hb : Below w.heap.size w W4 := b1.trans (hb4.mono (by simp))
 have x0 := (cells_new w #[.string ⟨beg.toArray⟩, .func (Fn.func 215) #[] #[.pointer (some pm), .pointer (some pb)], .func (Fn.func f2) #[] c2] 228).on hb4
 have P := hasPre_any W4 xs (nats beg) A cap _ cp (hx.on hb) hR.by (by intro e; have := congrArg List.length e; rw [nats_len] at this; simp at this; subst this; simp at h1)
 obtain ⟨hl, hhl⟩ : ∃ n, beg.length = n := ⟨_, rfl⟩
 rw [nats_len, hhl] at P
 rw [hhl] at hcv
 obtain ⟨FR, hFR⟩ : ∃ v, followR beg may xs = v := ⟨_, rfl⟩
 rw [hFR]
 have HH := Lib.hid (And.intro P (And.intro hb (And.intro x0 (And.intro hFR (And.intro hx (And.intro K (And.intro h1 h3)))))))
 clear P hb x0 hFR hx K hb4 b1 hR hcv0 hsz
 go_enter Tryz.func171, Tryz.ntmps171
 go_wp2_with fail
 refine HH.out.1.mono ?_
 rintro e w1 ⟨rfl, rfl⟩
 have q0 := HH.out.2.2.1.cell 0
 have q1 := HH.out.2.2.1.cell 1
 simp at q0 q1
 cases hp : (nats beg).isPrefixOf xs with
 | false =>
  have HP := Lib.hid hp
  clear hp
  go_wp2_with fail
  have hf : FR = (0, false) := by rw [← HH.out.2.2.2.1, followR, HP.out]; rfl
  refine bodyPost_ret (v := .tuple #[.int .i64 0, .bool false]) ?_ rfl ⟨by rw [hf]; rfl, HH.out.2.1⟩
  simp [results, Tryz.results171, go_sem]
 | true =>
  have hle : hl ≤ xs.length := by
   have := (List.isPrefixOf_iff_prefix.1 hp).length_le
   rw [nats_len] at this
   omega
  have hf : FR = fol may xs hl hl (xs.drop hl) := by rw [← HH.out.2.2.2.1, followR, hp, hhl]; rfl
  have HP := Lib.hid (And.intro hf hle)
  clear hp hf hle
  go_wp2_with fail
  go_loopw [6] (fun r wr => ∃ n : Nat, r = .int .i64 (n : Int) ∧ hl ≤ n ∧ n ≤ xs.length ∧ FR = fol may xs hl n (xs.drop n) ∧ Below w1.heap.size w1 wr) (fun r _ => xs.length - (RowKit.intOf r).toNat)
  case atStart => exact ⟨hl, rfl, Nat.le_refl _, HP.out.2, HP.out.1, Below.refl _ _⟩
  case round =>
   obtain ⟨n, rfl, hn1, hn2, hfr, hb⟩ := hrel
   have xr : Cells wr w.heap.size 228 _ := (hb.block _ HH.out.2.2.1.lt).trans HH.out.2.2.1
   have bw : Below w.heap.size w wr := HH.out.2.1.trans (hb.mono HH.out.2.1.size)
   have g0 := xr.cell 0
   have g1 := xr.cell 1
   simp at g0 g1
   by_cases hlt : n < xs.length
   case neg =>
    have hn : n = xs.length := by omega
    have hf : FR = (n, false) := by rw [hfr, List.drop_of_length_le (by omega)]; rfl
    have i1 : ¬ (n : Int) < (xs.length : Int) := by omega
    have i2 : decide ((n : Int) < (xs.length : Int)) = false := by simpa using i1
    have HK := Lib.hid (And.intro hf bw)
    clear hn hfr hf hb xr bw hn1 hn2 q0 q1
    go_wp2_with go_quiet (fail)
    refine bodyPost_ret (v := .tuple #[.int .i64 (n : Int), .bool false]) ?_ rfl ⟨by rw [HK.out.1], below_drewN HK.out.2 _⟩
    simp [results, Tryz.results171, go_sem]
   case pos =>
    obtain ⟨c, hc⟩ := at_lt hlt
    obtain ⟨b, o, rfl, hbl, hcell⟩ := HH.out.2.2.2.2.1.at hc
    have d0 := (bw.cell (p := ⟨b, o + n, none⟩) hbl).trans hcell
    have hc256 := HH.out.2.2.2.2.1.lt hc
    have hcap := HH.out.2.2.2.2.1.l
    have i1 : (n : Int) < (xs.length : Int) := by omega
    have hsl := slice_win b o xs.length cap hl n hn1 (by omega) (by omega)
    have hbl2 : ((xs.take n).drop hl).length = n - hl := by simp; omega
    have C : ∀ d os, Calls Tryz.prog 215 #[.slice (some ⟨b, o + hl, none⟩) (n - hl) (cap - hl), .int .u8 (c : Int), .pointer (some pm), .pointer (some pb)] (grow (redrawn wr d) os) fun e w'' => e = .returned (.bool (may ((xs.take n).drop hl) c)) ∧ ∃ p : Regrown, w'' = grow (redrawn wr p.d) p.os := fun d os => by
     have bd := bw.trans ((below_regrown wr d os).mono bw.size)
     have := HH.out.2.2.2.2.2.1 (grow (redrawn wr d) os) bd b (o + hl) (cap - hl) ((xs.take n).drop hl) c hc256 ((HH.out.2.2.2.2.1.win hl n hn1 hn2).on bd)
     rw [hbl2] at this
     exact Calls.regrown_of this
    have hfr2 := hfr.trans (fol_at hc)
    have HK := Lib.hid (And.intro hb (And.intro hfr2 (And.intro bw (And.intro hc (And.intro hn1 hlt)))))
    have z0 := cell_regrown g0
    have z1 := cell_regrown g1
    have z2 := cell_regrown d0
    cases hm : may ((xs.take n).drop hl) c with
    | false =>
     rw [hm] at C
     have HM := Lib.hid hm
     clear hm hfr hfr2 hb bw hc256 hcap hc hbl2 hcell xr q0 q1 g0 g1 d0
     go_wp2_with fail
     refine wp_region_quiet_below (by kernel_rfl) (by kernel_rfl) ?_
     repeat (go_big_quiet_step (exact C _ _))
     refine wpQuiet_nil ?_
     intro _ hw'
     obtain ⟨⟨dq, osq⟩, hw''⟩ := hw'
     subst hw''
     have HB := Lib.hid (HK.out.2.2.1.trans ((below_regrown wr dq osq).mono HK.out.2.2.1.size))
     clear z0 z1 z2 C
     go_wp2_with fail
     have hf : FR = (n, false) := by rw [HK.out.2.1, HM.out]; rfl
     refine bodyPost_ret (v := .tuple #[.int .i64 (n : Int), .bool false]) ?_ rfl ⟨by rw [hf], HB.out⟩
     simp [results, Tryz.results171, go_sem]
    | true =>
     rw [hm] at C
     have HM := Lib.hid hm
     clear hm hfr hfr2 hb bw hc256 hcap hc hbl2 hcell xr q0 q1 g0 g1
     go_wp2_with fail
     refine wp_region_quiet_below (by kernel_rfl) (by kernel_rfl) ?_
     repeat (go_big_quiet_step (exact C _ _))
     refine wpQuiet_nil ?_
     intro _ hw'
     obtain ⟨⟨dq, osq⟩, hw''⟩ := hw'
     subst hw''
     have HB := Lib.hid (HK.out.2.2.1.trans ((below_regrown wr dq osq).mono HK.out.2.2.1.size))
     have z3 := cell_regrown d0 dq osq
     have hb5 := Lib.hid (HK.out.1.trans ((below_regrown wr dq osq).mono HK.out.1.size))
     have hlen := HH.out.2.2.2.2.1.len
     have w1 : wrap64 ((n : Int) + 1) = (n : Int) + 1 := by unfold wrap64; omega
     have w2 : wrap64 (n : Int) = (n : Int) := by unfold wrap64; omega
     clear z0 z1 z2 C d0 hlen
     by_cases hcc : c = 59
     case pos =>
      subst hcc
      have hf : FR = (n + 1, true) := by rw [HK.out.2.1, HM.out]; rfl
      have HF := Lib.hid hf
      clear hf
      go_wp2_with fail
      refine bodyPost_ret (v := .tuple #[.int .i64 (n + 1 : Int), .bool true]) ?_ rfl ⟨by rw [HF.out]; rfl, HB.out⟩
      simp [results, Tryz.results171, go_sem]
     case neg =>
      have hc1 : ¬ (c : Int) = 59 := by omega
      have hc2 : ((c : Int) == 59) = false := by simp; omega
      have hf : FR = fol may xs hl (n + 1) (xs.drop (n + 1)) := by rw [HK.out.2.1, HM.out, if_pos rfl, if_neg hcc]
      have HF := Lib.hid hf
      clear hf
      go_wp2_with fail
      go_roundw
      case rel => exact ⟨n + 1, by go_num, Nat.le_succ_of_le HK.out.2.2.2.2.1, HK.out.2.2.2.2.2, HF.out, hb5.out⟩
      case measure =>
       rw [w1]
       exact meas_step xs.length n HK.out.2.2.2.2.2
theorem follow51_any (w : World) (beg : List UInt8) (h1 : 1 ≤ beg.length) (h3 : beg.length ≤ 3) (may : List Nat → Nat → Bool) (f2 : FuncId) (c2 : Array Value) (xs : List Nat) (A : Option Addr) (cap : Nat) (hx : BY w w.heap.size xs A cap)
  (K : ∀ W, Below w.heap.size w W → ∀ b o cap' l (c : Nat), c < 256 → BY W W.heap.size l (some ⟨b, o, none⟩) cap' → Calls Tryz.prog 196 #[.slice (some ⟨b, o, none⟩) l.length cap', .int .u8 (c : Int)] W fun e w' => e = .returned (.bool (may l c)) ∧ Below W.heap.size W w') :
  Calls Tryz.prog 171 #[.agg #[.string ⟨beg.toArray⟩, .func (Fn.func 196) #[] #[], .func (Fn.func f2) #[] c2], .slice A xs.length cap] w fun e w' => e = .returned (.tuple #[.int .i64 ((followR beg may xs).1 : Nat), .bool (followR beg may xs).2]) ∧ Below w.heap.size w w' := by
 have b1 := below_new w (.cells #[.string ⟨beg.toArray⟩, .func (Fn.func 196) #[] #[], .func (Fn.func f2) #[] c2] 228)
 obtain ⟨cp, W4, hcv0, hR, hb4⟩ := conv_str (w.alloc (.cells #[.string ⟨beg.toArray⟩, .func (Fn.func 196) #[] #[], .func (Fn.func f2) #[] c2] 228)) beg (by omega)
 have hcv : (convert 9 22 (.string ⟨beg.toArray⟩)).run Tryz.prog (w.alloc (.cells #[.string ⟨beg.toArray⟩, .func (Fn.func 196) #[] #[], .func (Fn.func f2) #[] c2] 228)) = _ := hcv0
 have hsz : (w.alloc (.cells #[.string ⟨beg.toArray⟩, .func (Fn.func 196) #[] #[], .func (Fn.func f2) #[] c2] 228)).heap.size = w.heap.size + 1 := by simp
 rw [hsz] at hcv hR
 have hb : Below w.heap.size w W4 := b1.trans (hb4.mono (by simp))
 have x0 := (cells_new w #[.string ⟨beg.toArray⟩, .func (Fn.func 196) #[] #[], .func (Fn.func f2) #[] c2] 228).on hb4
 have P := hasPre_any W4 xs (nats beg) A cap _ cp (hx.on hb) hR.by (by intro e; have := congrArg List.length e; rw [nats_len] at this; simp at this; subst this; simp at h1)
 obtain ⟨hl, hhl⟩ : ∃ n, beg.length = n := ⟨_, rfl⟩
 rw [nats_len, hhl] at P
 rw [hhl] at hcv
 obtain ⟨FR, hFR⟩ : ∃ v, followR beg may xs = v := ⟨_, rfl⟩
 rw [hFR]
 have HH := Lib.hid (And.intro P (And.intro hb (And.intro x0 (And.intro hFR (And.intro hx (And.intro K (And.intro h1 h3)))))))
 clear P hb x0 hFR hx K hb4 b1 hR hcv0 hsz
 go_enter Tryz.func171, Tryz.ntmps171
 go_wp2_with fail
 refine HH.out.1.mono ?_
 rintro e w1 ⟨rfl, rfl⟩
 have q0 := HH.out.2.2.1.cell 0
 have q1 := HH.out.2.2.1.cell 1
 simp at q0 q1
 cases hp : (nats beg).isPrefixOf xs with
 | false =>
  have HP := Lib.hid hp
  clear hp
  go_wp2_with fail
  have hf : FR = (0, false) := by rw [← HH.out.2.2.2.1, followR, HP.out]; rfl
  refine bodyPost_ret (v := .tuple #[.int .i64 0, .bool false]) ?_ rfl ⟨by rw [hf]; rfl, HH.out.2.1⟩
  simp [results, Tryz.results171, go_sem]
 | true =>
  have hle : hl ≤ xs.length := by
   have := (List.isPrefixOf_iff_prefix.1 hp).length_le
   rw [nats_len] at this
   omega
  have hf : FR = fol may xs hl hl (xs.drop hl) := by rw [← HH.out.2.2.2.1, followR, hp, hhl]; rfl
  have HP := Lib.hid (And.intro hf hle)
  clear hp hf hle
  go_wp2_with fail
  go_loopw [6] (fun r wr => ∃ n : Nat, r = .int .i64 (n : Int) ∧ hl ≤ n ∧ n ≤ xs.length ∧ FR = fol may xs hl n (xs.drop n) ∧ Below w1.heap.size w1 wr) (fun r _ => xs.length - (RowKit.intOf r).toNat)
  case atStart => exact ⟨hl, rfl, Nat.le_refl _, HP.out.2, HP.out.1, Below.refl _ _⟩
  case round =>
   obtain ⟨n, rfl, hn1, hn2, hfr, hb⟩ := hrel
   have xr : Cells wr w.heap.size 228 _ := (hb.block _ HH.out.2.2.1.lt).trans HH.out.2.2.1
   have bw : Below w.heap.size w wr := HH.out.2.1.trans (hb.mono HH.out.2.1.size)
   have g0 := xr.cell 0
   have g1 := xr.cell 1
   simp at g0 g1
   by_cases hlt : n < xs.length
   case neg =>
    have hn : n = xs.length := by omega
    have hf : FR = (n, false) := by rw [hfr, List.drop_of_length_le (by omega)]; rfl
    have i1 : ¬ (n : Int) < (xs.length : Int) := by omega
    have i2 : decide ((n : Int) < (xs.length : Int)) = false := by simpa using i1
    have HK := Lib.hid (And.intro hf bw)
    clear hn hfr hf hb xr bw hn1 hn2 q0 q1
    go_wp2_with go_quiet (fail)
    refine bodyPost_ret (v := .tuple #[.int .i64 (n : Int), .bool false]) ?_ rfl ⟨by rw [HK.out.1], below_drewN HK.out.2 _⟩
    simp [results, Tryz.results171, go_sem]
   case pos =>
    obtain ⟨c, hc⟩ := at_lt hlt
    obtain ⟨b, o, rfl, hbl, hcell⟩ := HH.out.2.2.2.2.1.at hc
    have d0 := (bw.cell (p := ⟨b, o + n, none⟩) hbl).trans hcell
    have hc256 := HH.out.2.2.2.2.1.lt hc
    have hcap := HH.out.2.2.2.2.1.l
    have i1 : (n : Int) < (xs.length : Int) := by omega
    have hsl := slice_win b o xs.length cap hl n hn1 (by omega) (by omega)
    have hbl2 : ((xs.take n).drop hl).length = n - hl := by simp; omega
    have C : ∀ d os, Calls Tryz.prog 196 #[.slice (some ⟨b, o + hl, none⟩) (n - hl) (cap - hl), .int .u8 (c : Int)] (grow (redrawn wr d) os) fun e w'' => e = .returned (.bool (may ((xs.take n).drop hl) c)) ∧ ∃ p : Regrown, w'' = grow (redrawn wr p.d) p.os := fun d os => by
     have bd := bw.trans ((below_regrown wr d os).mono bw.size)
     have := HH.out.2.2.2.2.2.1 (grow (redrawn wr d) os) bd b (o + hl) (cap - hl) ((xs.take n).drop hl) c hc256 ((HH.out.2.2.2.2.1.win hl n hn1 hn2).on bd)
     rw [hbl2] at this
     exact Calls.regrown_of this
    have hfr2 := hfr.trans (fol_at hc)
    have HK := Lib.hid (And.intro hb (And.intro hfr2 (And.intro bw (And.intro hc (And.intro hn1 hlt)))))
    have z0 := cell_regrown g0
    have z1 := cell_regrown g1
    have z2 := cell_regrown d0
    cases hm : may ((xs.take n).drop hl) c with
    | false =>
     rw [hm] at C
     have HM := Lib.hid hm
     clear hm hfr hfr2 hb bw hc256 hcap hc hbl2 hcell xr q0 q1 g0 g1 d0
     go_wp2_with fail
     refine wp_region_quiet_below (by kernel_rfl) (by kernel_rfl) ?_
     repeat (go_big_quiet_step (exact C _ _))
     refine wpQuiet_nil ?_
     intro _ hw'
     obtain ⟨⟨dq, osq⟩, hw''⟩ := hw'
     subst hw''
     have HB := Lib.hid (HK.out.2.2.1.trans ((below_regrown wr dq osq).mono HK.out.2.2.1.size))
     clear z0 z1 z2 C
     go_wp2_with fail
     have hf : FR = (n, false) := by rw [HK.out.2.1, HM.out]; rfl
     refine bodyPost_ret (v := .tuple #[.int .i64 (n : Int), .bool false]) ?_ rfl ⟨by rw [hf], HB.out⟩
     simp [results, Tryz.results171, go_sem]
    | true =>
     rw [hm] at C
     have HM := Lib.hid hm
     clear hm hfr hfr2 hb bw hc256 hcap hc hbl2 hcell xr q0 q1 g0 g1
     go_wp2_with fail
     refine wp_region_quiet_below (by kernel_rfl) (by kernel_rfl) ?_
     repeat (go_big_quiet_step (exact C _ _))
     refine wpQuiet_nil ?_
     intro _ hw'
     obtain ⟨⟨dq, osq⟩, hw''⟩ := hw'
     subst hw''
     have HB := Lib.hid (HK.out.2.2.1.trans ((below_regrown wr dq osq).mono HK.out.2.2.1.size))
     have z3 := cell_regrown d0 dq osq
     have hb5 := Lib.hid (HK.out.1.trans ((below_regrown wr dq osq).mono HK.out.1.size))
     have hlen := HH.out.2.2.2.2.1.len
     have w1 : wrap64 ((n : Int) + 1) = (n : Int) + 1 := by unfold wrap64; omega
     have w2 : wrap64 (n : Int) = (n : Int) := by unfold wrap64; omega
     clear z0 z1 z2 C d0 hlen
     by_cases hcc : c = 59
     case pos =>
      subst hcc
      have hf : FR = (n + 1, true) := by rw [HK.out.2.1, HM.out]; rfl
      have HF := Lib.hid hf
      clear hf
      go_wp2_with fail
      refine bodyPost_ret (v := .tuple #[.int .i64 (n + 1 : Int), .bool true]) ?_ rfl ⟨by rw [HF.out]; rfl, HB.out⟩
      simp [results, Tryz.results171, go_sem]
     case neg =>
      have hc1 : ¬ (c : Int) = 59 := by omega
      have hc2 : ((c : Int) == 59) = false := by simp; omega
      have hf : FR = fol may xs hl (n + 1) (xs.drop (n + 1)) := by rw [HK.out.2.1, HM.out, if_pos rfl, if_neg hcc]
      have HF := Lib.hid hf
      clear hf
      go_wp2_with fail
      go_roundw
      case rel => exact ⟨n + 1, by go_num, Nat.le_succ_of_le HK.out.2.2.2.2.1, HK.out.2.2.2.2.2, HF.out, hb5.out⟩
      case measure =>
       rw [w1]
       exact meas_step xs.length n HK.out.2.2.2.2.2
end Go.Proofs.YtfafhbgkmlmmdaaGreatDoor
namespace Go.Proofs.YtfafhbgkmlmmdaaGreatDoor
open Go.RowKit Go.Shelf Go.Lib Go.Maps Go.Great
attribute [local irreducible] NR ZNR FR nmE
structure Sty where
 beg : List UInt8
 may : List Nat → Nat → Bool
 means : List Nat → Int
def mayNm (l : List Nat) (c : Nat) : Bool := (nmE.find? (isMy l c)).isSome
def stN : Sty := ⟨[38], mayNm, fun l => nmR (u8s l)⟩
def stD (beg : List UInt8) (b most : Nat) : Sty := ⟨beg, mayD b most, fun l => mnR (nbV b l 0)⟩
def styL : List Sty := [stN, stD [38, 35] 10 7, stD [38, 35, 120] 16 6, stD [38, 35, 88] 16 6]
def readS : List Sty → List Nat → Int × Nat
 | [], _ => (0, 0)
 | s :: r, xs => if (followR s.beg s.may xs).2 then (s.means ((xs.take ((followR s.beg s.may xs).1 - 1)).drop s.beg.length), (followR s.beg s.may xs).1) else readS r xs
def readE (xs : List Nat) (i : Int) : Int × Nat := if i < 0 ∨ (xs.length : Int) ≤ i then (0, 0) else if xs.getD i.toNat 0 = 38 then readS styL (xs.drop i.toNat) else (0, 0)
theorem take_snoc {l : List Nat} {n c h : Nat} (hx : l[n]? = some c) (hh : h ≤ n) : (l.take (n + 1)).drop h = (l.take n).drop h ++ [c] := by
 have hn := (List.getElem?_eq_some_iff.1 hx).1
 rw [List.take_add_one, hx, Option.toList_some, List.drop_append_of_le_length (by simp; omega)]
theorem fol_true {may : List Nat → Nat → Bool} {xs : List Nat} {h m : Nat} : ∀ (r : List Nat) (n : Nat), r = xs.drop n → h ≤ n → fol may xs h n r = (m, true) → n < m ∧ m ≤ xs.length
 | [], n, _, _, e => by simp [fol] at e
 | c :: r, n, hr, hh, e => by
  have hx : xs[n]? = some c := by have := congrArg (·[0]?) hr; simpa using this.symm
  have hn := (List.getElem?_eq_some_iff.1 hx).1
  rw [fol] at e
  split at e
  ·split at e
   ·simp at e
    omega
   ·have hr2 : r = xs.drop (n + 1) := by
     have := drop_at hx
     rw [← hr] at this
     injection this
    have := fol_true r (n + 1) hr2 (by omega) e
    omega
  ·simp at e
theorem fol_num {b most : Nat} {xs : List Nat} {h m : Nat} : ∀ (r : List Nat) (n : Nat), r = xs.drop n → h ≤ n → (∀ x ∈ (xs.take n).drop h, dgB b x = true) → ((xs.take n).drop h).length ≤ most → fol (mayD b most) xs h n r = (m, true) →
  (∀ x ∈ (xs.take (m - 1)).drop h, dgB b x = true) ∧ (xs.take (m - 1)).drop h ≠ [] ∧ ((xs.take (m - 1)).drop h).length ≤ most
 | [], n, _, _, _, _, e => by simp [fol] at e
 | c :: r, n, hr, hh, hd, hl, e => by
  have hx : xs[n]? = some c := by have := congrArg (·[0]?) hr; simpa using this.symm
  have hn := (List.getElem?_eq_some_iff.1 hx).1
  rw [fol] at e
  split at e
  ·rename_i hmay
   split at e
   ·rename_i hc
    simp at e
    obtain rfl := e
    rw [mayD, if_pos hc] at hmay
    refine ⟨by simpa using hd, ?_, by simpa using hl⟩
    intro e0
    simp at hmay
    have := congrArg List.length e0
    simp at this
    omega
   ·rename_i hc
    have hr2 : r = xs.drop (n + 1) := by
     have := drop_at hx
     rw [← hr] at this
     injection this
    rw [mayD, if_neg hc] at hmay
    simp only [Bool.and_eq_true, decide_eq_true_eq] at hmay
    refine fol_num r (n + 1) hr2 (by omega) ?_ ?_ e
    ·rw [take_snoc hx hh]
     intro x hx
     rcases List.mem_append.1 hx with h | h
     ·exact hd x h
     ·rw [List.mem_singleton.1 h]; exact hmay.2
    ·rw [take_snoc hx hh, List.length_append]
     simp only [List.length_singleton]
     omega
  ·simp at e
theorem follow_true {beg : List UInt8} {may : List Nat → Nat → Bool} {xs : List Nat} {m : Nat} (e : followR beg may xs = (m, true)) : beg.length < m ∧ m ≤ xs.length := by
 unfold followR at e
 split at e
 ·exact fol_true _ _ rfl (Nat.le_refl _) e
 ·simp at e
theorem follow_num {beg : List UInt8} {b most : Nat} {xs : List Nat} {m : Nat} (e : followR beg (mayD b most) xs = (m, true)) :
  (∀ x ∈ (xs.take (m - 1)).drop beg.length, dgB b x = true) ∧ (xs.take (m - 1)).drop beg.length ≠ [] ∧ ((xs.take (m - 1)).drop beg.length).length ≤ most := by
 unfold followR at e
 split at e
 ·refine fol_num _ _ rfl (Nat.le_refl _) ?_ ?_ e
  ·intro x hx
   simp at hx
  ·simp
 ·simp at e
theorem slice_from (b o len cap l : Nat) (hlh : l < len) (hh : len ≤ cap) (W : World) :
  (Instr.slice 22 (.slice (some ⟨b, o, none⟩) len cap) (some (.int .i64 (l : Int))) none none).run Tryz.prog W = .ok (.slice (some ⟨b, o + l, none⟩) (len - l) (cap - l)) W := by
 have ht : Tryz.prog.underlying 22 = some (.slice 5) := Tryz.underlying22
 have ht' : Tryz.prog.underlying 22 = some (.slice (Tryz.prog.elem 22)) := by simp [Program.elem, ht]
 have he : Tryz.prog.elem 22 = 5 := by simp [Program.elem, ht]
 have hz : ∀ w, (Go.sizeOf 5).run Tryz.prog w = .ok 1 w := fun w => by kernel_rfl
 rw [run_slice_l W 22 _ _ _ ht' .i64 _ (by omega) (by omega), he, hz]
 have hne : ¬ cap = l := by omega
 by_cases h0 : l = 0
 ·subst h0
  simp [Result.andThen, sliced, Addr.add, hne]
 ·simp [Result.andThen, sliced, Addr.add, hne, h0]
theorem index_sty (g1 g2 g3 : Nat) (W : World) : (Instr.index 229 (stysV g1 g2 g3) (.int .i64 0)).run Tryz.prog W = .ok (.agg namF.toArray) W ∧ (Instr.index 229 (stysV g1 g2 g3) (.int .i64 1)).run Tryz.prog W = .ok (.agg (numF [38, 35] g1).toArray) W ∧
  (Instr.index 229 (stysV g1 g2 g3) (.int .i64 2)).run Tryz.prog W = .ok (.agg (numF [38, 35, 120] g2).toArray) W ∧ (Instr.index 229 (stysV g1 g2 g3) (.int .i64 3)).run Tryz.prog W = .ok (.agg (numF [38, 35, 88] g3).toArray) W :=
 ⟨by kernel_rfl, by kernel_rfl, by kernel_rfl, by kernel_rfl⟩
end Go.Proofs.YtfafhbgkmlmmdaaGreatDoor
namespace Go.Proofs.YtfafhbgkmlmmdaaGreatDoor
open Go.RowKit Go.Shelf Go.Lib Go.Maps Go.Great
open Go.Sort (grow)
attribute [local irreducible] NR ZNR FR nmE
theorem readS_no {s : Sty} {r : List Sty} {xs : List Nat} (h : (followR s.beg s.may xs).2 = false) : readS (s :: r) xs = readS r xs := by
 rw [readS, h]
 rfl
theorem readS_yes {s : Sty} {r : List Sty} {xs : List Nat} {m : Nat} (h : followR s.beg s.may xs = (m, true)) : readS (s :: r) xs = (s.means ((xs.take (m - 1)).drop s.beg.length), m) := by
 rw [readS, h]
 rfl
theorem readE_any (w : World) (hT : S.Tabs w) (xs : List Nat) (A : Option Addr) (cap : Nat) (hx : BY w w.heap.size xs A cap) (i : Int) (hi0 : -9223372036854775808 ≤ i) (hi1 : i ≤ 9223372036854775807) :
  Calls Tryz.prog 133 #[.slice A xs.length cap, .int .i64 i] w fun e w' => e = .returned (.tuple #[.int .i32 (readE xs i).1, .int .i64 ((readE xs i).2 : Nat)]) ∧ Below w.heap.size w w' := by
 have hs : ∀ (a : Addr) (f : FuncId) (c : Array Value) (m : Mode) (W : World), (store a (.func (Fn.func f) #[] c) m).run Tryz.prog W = stored Tryz.prog W a (.func (Fn.func f) #[] c) m := fun a f c m W => run_store_func Tryz.prog W a m _ _ _
 obtain ⟨RE, hRE⟩ : ∃ v, readE xs i = v := ⟨_, rfl⟩
 rw [hRE]
 have HH := Lib.hid (And.intro hRE (And.intro hx hT))
 clear hRE hT
 by_cases h0 : i < 0
 case pos =>
  have hf : RE = (0, 0) := by rw [← HH.out.1, readE, if_pos (Or.inl h0)]
  clear hx
  go_enter Tryz.func133, Tryz.ntmps133
  go_wp2_with fail
  refine bodyPost_ret (v := .tuple #[.int .i32 0, .int .i64 0]) ?_ rfl ⟨by first | rfl | (rw [hf]; rfl), Below.refl _ _⟩
  simp [results, Tryz.results133, go_sem]
 case neg =>
 obtain ⟨k, rfl⟩ : ∃ k : Nat, i = (k : Int) := ⟨i.toNat, by omega⟩
 by_cases h1 : xs.length ≤ k
 case pos =>
  have hf : RE = (0, 0) := by rw [← HH.out.1, readE, if_pos (Or.inr (by omega))]
  have h2 : ¬ (k : Int) < (xs.length : Int) := by omega
  have h3 : (xs.length : Int) ≤ (k : Int) := by omega
  clear hx
  go_enter Tryz.func133, Tryz.ntmps133
  go_wp2_with fail
  refine bodyPost_ret (v := .tuple #[.int .i32 0, .int .i64 0]) ?_ rfl ⟨by first | rfl | (rw [hf]; rfl), Below.refl _ _⟩
  simp [results, Tryz.results133, go_sem]
 case neg =>
 have hk : k < xs.length := by omega
 obtain ⟨c, hc⟩ := at_lt hk
 obtain ⟨b, o, rfl, hbl, d0⟩ := hx.at hc
 have h2 : (k : Int) < (xs.length : Int) := by omega
 have h3 : ¬ (xs.length : Int) ≤ (k : Int) := by omega
 have hgd : xs.getD k 0 = c := by simp [List.getD_eq_getElem?_getD, hc]
 have hcl := hx.l
 by_cases h38 : c = 38
 case neg =>
  have hf : RE = (0, 0) := by rw [← HH.out.1, readE, if_neg (by omega), Int.toNat_natCast, hgd, if_neg h38]
  have hc1 : ¬ (c : Int) = 38 := by omega
  have hc2 : ((c : Int) == 38) = false := by simp; omega
  clear hx hgd
  go_enter Tryz.func133, Tryz.ntmps133
  go_wp2_with fail
  refine bodyPost_ret (v := .tuple #[.int .i32 0, .int .i64 0]) ?_ rfl ⟨by first | rfl | (rw [hf]; rfl), Below.refl _ _⟩
  simp [results, Tryz.results133, go_sem]
 case pos =>
 subst h38
 have hf : RE = readS styL (xs.drop k) := by rw [← HH.out.1, readE, if_neg (by omega), Int.toNat_natCast, hgd, if_pos rfl]
 have hy := hx.drop hk
 have hsl := slice_from b o xs.length cap k hk hcl
 have hyl : xs.length - k = (xs.drop k).length := by simp
 rw [hyl] at hsl
 generalize hys : xs.drop k = ys at *
 have HF := Lib.hid (And.intro hf hy)
 clear hf hx hgd hcl hy
 go_enter Tryz.func133, Tryz.ntmps133
 go_wp2_with fail
 refine (styles_any w).mono ?_
 rintro e w1 ⟨g1, g2, g3, rfl, hb1, S1, S2, S3⟩
 obtain ⟨cq, hcq⟩ : ∃ n, cap - k = n := ⟨_, rfl⟩
 obtain ⟨oq, hoq⟩ : ∃ n, o + k = n := ⟨_, rfl⟩
 rw [hcq, hoq] at HF
 have hT1 : S.Tabs w1 := HH.out.2.2.below hb1 HH.out.2.2.2
 have HS := Lib.hid (And.intro hb1 (And.intro S1 (And.intro S2 (And.intro S3 (And.intro hT1 (HF.out.2.on hb1))))))
 clear hb1 S1 S2 S3 hT1 hsl d0 hbl
 obtain ⟨SV, hSV⟩ : ∃ v, stysV g1 g2 g3 = v := ⟨_, rfl⟩
 have hix := fun W => index_sty g1 g2 g3 W
 rw [hSV] at hix
 rw [hSV]
 have HX := Lib.hid hix
 clear hix hSV
 go_wp2_with fail
 go_loopw [29] (fun r wr => ∃ q : Nat, r = .int .i64 (q : Int) ∧ q ≤ 4 ∧ RE = readS (styL.drop q) ys ∧ Below w1.heap.size w1 wr) (fun r _ => 4 - (RowKit.intOf r).toNat)
 case atStart => exact ⟨0, rfl, by decide, HF.out.1, Below.refl _ _⟩
 case round =>
  obtain ⟨q, rfl, hq, hre, hb⟩ := hrel
  have hy := HS.out.2.2.2.2.2.on hb
  have hTr : S.Tabs wr := HS.out.2.2.2.2.1.below hb HS.out.2.2.2.2.1.2
  have bw : Below w.heap.size w wr := HS.out.1.trans (hb.mono HS.out.1.size)
  obtain rfl | hq4 : q = 4 ∨ q < 4 := by omega
  ·have hf : RE = (0, 0) := hre
   have HK := Lib.hid (And.intro hf bw)
   clear hre hb hf bw hy hTr
   go_wp2_with fail
   refine bodyPost_ret (v := .tuple #[.int .i32 0, .int .i64 0]) ?_ rfl ⟨by rw [HK.out.1]; rfl, HK.out.2⟩
   simp [results, Tryz.results133, go_sem]
  obtain rfl | rfl | rfl | rfl : q = 0 ∨ q = 1 ∨ q = 2 ∨ q = 3 := by omega
  ·have hixq : ∀ W, (Instr.index 229 SV (.int .i64 0)).run Tryz.prog W = .ok (.agg #[.string ⟨#[38]⟩, .func (Fn.func 196) #[] #[], .func (Fn.func 197) #[] #[]]) W := fun W => (HX.out W).1
   obtain ⟨W0, hW0⟩ : ∃ W, wr.alloc (.cells #[.string ⟨#[38]⟩, .func (Fn.func 196) #[] #[], .func (Fn.func 197) #[] #[]] 228) = W := ⟨_, rfl⟩
   have hb0 : Below wr.heap.size wr W0 := by rw [← hW0]; exact below_new _ _
   have x0 : Cells W0 wr.heap.size 228 #[.string ⟨#[38]⟩, .func (Fn.func 196) #[] #[], .func (Fn.func 197) #[] #[]] := by rw [← hW0]; exact cells_new _ _ _
   have hy0 := hy.on hb0
   have C := follow51_any W0 [38] (by decide) (by decide) mayNm 197 #[] ys (some ⟨b, oq, none⟩) cq hy0 (fun W hbW b' o' cap' l cc hcc hBY => mayName_any W l _ cap' cc hBY)
   have hT0 : S.Tabs W0 := hTr.below hb0 hTr.2
   obtain ⟨m, wh, hfm⟩ : ∃ m wh, followR [38] (mayNm) ys = (m, wh) := ⟨_, _, rfl⟩
   rw [hfm] at C
   dsimp only at C
   have H0 := Lib.hid (And.intro C (And.intro x0 (And.intro hb0 (And.intro hy0 (And.intro hT0 (And.intro hre (And.intro hb hfm)))))))
   have p0 := x0.cell 0
   have p1 := x0.cell 1
   have p2 := x0.cell 2
   simp at p0 p1 p2
   clear C x0 hb0 hy0 hy hTr hre hb hT0 hfm bw
   go_wp2_with fail
   refine H0.out.1.mono ?_
   rintro e w2 ⟨rfl, hb2⟩
   have b02 := H0.out.2.2.1.trans (hb2.mono H0.out.2.2.1.size)
   have bw2 := H0.out.2.2.2.2.2.2.1.trans (b02.mono H0.out.2.2.2.2.2.2.1.size)
   have x2 := H0.out.2.1.on hb2
   have r0 := x2.cell 0
   have r2 := x2.cell 2
   simp at r0 r2
   cases wh with
   | false =>
    have HB2 := Lib.hid bw2
    have hre2 : RE = readS (styL.drop 1) ys := by rw [H0.out.2.2.2.2.2.1]; exact readS_no (by have := H0.out.2.2.2.2.2.2.2; exact congrArg Prod.snd this)
    have HR2 := Lib.hid hre2
    clear bw2 b02 x2 hb2 r0 r2 hre2
    go_wp2_with fail
    go_roundw
    case rel => exact ⟨1, rfl, by decide, HR2.out, HB2.out⟩
    case measure => exact (by decide)
   | true =>
    have hfm : followR [38] (mayNm) ys = (m, true) := H0.out.2.2.2.2.2.2.2
    have hm := follow_true hfm
    have hlt : 1 < m ∧ m ≤ ys.length := hm
    have hfr : RE = (nmR (u8s ((ys.take (m - 1)).drop 1)), m) := by rw [H0.out.2.2.2.2.2.1]; exact readS_yes (s := stN) hfm
    have hT2 : S.Tabs w2 := H0.out.2.2.2.2.1.below hb2 H0.out.2.2.2.2.1.2
    have hyw := (H0.out.2.2.2.1.on hb2).win 1 (m - 1) (by omega) (by omega)
    have hwl : ((ys.take (m - 1)).drop 1).length = m - 1 - 1 := by simp; omega
    have hcy := H0.out.2.2.2.1.l
    have hsl : ∀ W, (Instr.slice 22 (.slice (some ⟨b, oq, none⟩) ys.length cq) (some (.int .i64 1)) (some (.int .i64 ((m - 1 : Nat) : Int))) none).run Tryz.prog W = .ok (.slice (some ⟨b, oq + 1, none⟩) (m - 1 - 1) (cq - 1)) W := slice_win b oq ys.length cq 1 (m - 1) (by omega) (by omega) (by omega)
    have hm1 : ((m - 1 : Nat) : Int) = (m : Int) - 1 := by omega
    have hlen := H0.out.2.2.2.1.len
    have w1' : wrap64 ((m : Int) - 1) = ((m - 1 : Nat) : Int) := by unfold wrap64; omega
    have MC : ∀ d os, Calls Tryz.prog 197 #[.slice (some ⟨b, oq + 1, none⟩) (m - 1 - 1) (cq - 1)] (grow (redrawn w2 d) os) fun e w'' => e = .returned (.int .i32 (nmR (u8s ((ys.take (m - 1)).drop 1)))) ∧ ∃ p : Regrown, w'' = grow (redrawn w2 p.d) p.os := fun d os => by
     have := ofName_any (grow (redrawn w2 d) os) ((ys.take (m - 1)).drop 1) _ _ (hyw.on (below_regrown w2 d os))
     rw [hwl] at this
     exact Calls.regrown_of this
    obtain ⟨RV, hRV⟩ : ∃ v, nmR (u8s ((ys.take (m - 1)).drop 1)) = v := ⟨_, rfl⟩
    rw [hRV] at MC hfr
    obtain ⟨mm, hmm⟩ : ∃ n, m - 1 = n := ⟨_, rfl⟩
    rw [hmm] at MC hsl w1'
    have HK := Lib.hid (And.intro hfr bw2)
    have z0 := cell_regrown r0
    have z2 := cell_regrown r2
    clear hfr bw2 b02 x2 hb2 r0 r2 hm hlt hT2 hyw hwl hcy hm1 hlen hfm hRV hmm
    go_wp2_with fail
    refine wp_region_quiet_below (by kernel_rfl) (by kernel_rfl) ?_
    repeat (go_big_quiet_step (exact MC _ _))
    refine wpQuiet_nil ?_
    intro _ hw'
    obtain ⟨⟨dq, osq⟩, hw''⟩ := hw'
    subst hw''
    have HB := Lib.hid (HK.out.2.trans ((below_regrown w2 dq osq).mono HK.out.2.size))
    clear z0 z2 MC hsl
    go_wp2_with fail
    refine bodyPost_ret (v := .tuple #[.int .i32 RV, .int .i64 (m : Int)]) ?_ rfl ⟨by first | rfl | (rw [HK.out.1]), HS.out.1.trans (HB.out.mono HS.out.1.size)⟩
    simp [results, Tryz.results133, go_sem]
  ·have hixq : ∀ W, (Instr.index 229 SV (.int .i64 1)).run Tryz.prog W = .ok (.agg #[.string ⟨#[38, 35]⟩, .func (Fn.func 215) #[] #[.pointer (some ⟨g1 + 1, 0, none⟩), .pointer (some ⟨g1, 0, none⟩)], .func (Fn.func 217) #[] #[.pointer (some ⟨g1, 0, none⟩)]]) W := fun W => (HX.out W).2.1
   obtain ⟨W0, hW0⟩ : ∃ W, wr.alloc (.cells #[.string ⟨#[38, 35]⟩, .func (Fn.func 215) #[] #[.pointer (some ⟨g1 + 1, 0, none⟩), .pointer (some ⟨g1, 0, none⟩)], .func (Fn.func 217) #[] #[.pointer (some ⟨g1, 0, none⟩)]] 228) = W := ⟨_, rfl⟩
   have hb0 : Below wr.heap.size wr W0 := by rw [← hW0]; exact below_new _ _
   have x0 : Cells W0 wr.heap.size 228 #[.string ⟨#[38, 35]⟩, .func (Fn.func 215) #[] #[.pointer (some ⟨g1 + 1, 0, none⟩), .pointer (some ⟨g1, 0, none⟩)], .func (Fn.func 217) #[] #[.pointer (some ⟨g1, 0, none⟩)]] := by rw [← hW0]; exact cells_new _ _ _
   have hy0 := hy.on hb0
   have Cs : StyAt W0 g1 10 7 := ((HS.out.2.1).on hb).on hb0
   have C := follow67_any W0 [38, 35] (by decide) (by decide) (mayD 10 7) ⟨g1 + 1, 0, none⟩ ⟨g1, 0, none⟩ 217 #[.pointer (some ⟨g1, 0, none⟩)] ys (some ⟨b, oq, none⟩) cq hy0 (fun W hbW b' o' cap' l cc hcc hBY =>
    (mayD_any (Or.inl rfl) 7 l _ cap' cc hBY.len (g1 + 1) g1 W ((Cs.m).on hbW) ((Cs.b).on hbW)).mono (fun e w' h => ⟨h.1, by rw [h.2]; exact Below.refl _ _⟩))
   have hT0 : S.Tabs W0 := hTr.below hb0 hTr.2
   obtain ⟨m, wh, hfm⟩ : ∃ m wh, followR [38, 35] (mayD 10 7) ys = (m, wh) := ⟨_, _, rfl⟩
   rw [hfm] at C
   dsimp only at C
   have H0 := Lib.hid (And.intro C (And.intro x0 (And.intro hb0 (And.intro hy0 (And.intro hT0 (And.intro hre (And.intro hb hfm)))))))
   have HCs := Lib.hid Cs
   clear Cs
   have p0 := x0.cell 0
   have p1 := x0.cell 1
   have p2 := x0.cell 2
   simp at p0 p1 p2
   clear C x0 hb0 hy0 hy hTr hre hb hT0 hfm bw
   go_wp2_with fail
   refine H0.out.1.mono ?_
   rintro e w2 ⟨rfl, hb2⟩
   have b02 := H0.out.2.2.1.trans (hb2.mono H0.out.2.2.1.size)
   have bw2 := H0.out.2.2.2.2.2.2.1.trans (b02.mono H0.out.2.2.2.2.2.2.1.size)
   have x2 := H0.out.2.1.on hb2
   have r0 := x2.cell 0
   have r2 := x2.cell 2
   simp at r0 r2
   cases wh with
   | false =>
    have HB2 := Lib.hid bw2
    have hre2 : RE = readS (styL.drop 2) ys := by rw [H0.out.2.2.2.2.2.1]; exact readS_no (by have := H0.out.2.2.2.2.2.2.2; exact congrArg Prod.snd this)
    have HR2 := Lib.hid hre2
    clear bw2 b02 x2 hb2 r0 r2 hre2
    go_wp2_with fail
    go_roundw
    case rel => exact ⟨2, rfl, by decide, HR2.out, HB2.out⟩
    case measure => exact (by decide)
   | true =>
    have hfm : followR [38, 35] (mayD 10 7) ys = (m, true) := H0.out.2.2.2.2.2.2.2
    have hm := follow_true hfm
    have hlt : 2 < m ∧ m ≤ ys.length := hm
    have hfr : RE = (mnR (nbV 10 ((ys.take (m - 1)).drop 2) 0), m) := by rw [H0.out.2.2.2.2.2.1]; exact readS_yes (s := stD [38, 35] 10 7) hfm
    have hT2 : S.Tabs w2 := H0.out.2.2.2.2.1.below hb2 H0.out.2.2.2.2.1.2
    have hyw := (H0.out.2.2.2.1.on hb2).win 2 (m - 1) (by omega) (by omega)
    have hwl : ((ys.take (m - 1)).drop 2).length = m - 1 - 2 := by simp; omega
    have hcy := H0.out.2.2.2.1.l
    have hsl : ∀ W, (Instr.slice 22 (.slice (some ⟨b, oq, none⟩) ys.length cq) (some (.int .i64 2)) (some (.int .i64 ((m - 1 : Nat) : Int))) none).run Tryz.prog W = .ok (.slice (some ⟨b, oq + 2, none⟩) (m - 1 - 2) (cq - 2)) W := slice_win b oq ys.length cq 2 (m - 1) (by omega) (by omega) (by omega)
    have hm1 : ((m - 1 : Nat) : Int) = (m : Int) - 1 := by omega
    have hlen := H0.out.2.2.2.1.len
    have w1' : wrap64 ((m : Int) - 1) = ((m - 1 : Nat) : Int) := by unfold wrap64; omega
    have hfn := follow_num (by exact hfm)
    have Cs2 : StyAt w2 g1 10 7 := HCs.out.on hb2
    have MC : ∀ d os, Calls Tryz.prog 217 #[.slice (some ⟨b, oq + 2, none⟩) (m - 1 - 2) (cq - 2), .pointer (some ⟨g1, 0, none⟩)] (grow (redrawn w2 d) os) fun e w'' => e = .returned (.int .i32 (mnR (nbV 10 ((ys.take (m - 1)).drop 2) 0))) ∧ ∃ p : Regrown, w'' = grow (redrawn w2 p.d) p.os := fun d os => by
     have := means_any (Or.inl rfl) ((ys.take (m - 1)).drop 2) _ _ hfn.1 hfn.2.1 hfn.2.2 g1 (grow (redrawn w2 d) os) (hT2.below (below_regrown w2 d os) hT2.2) (hyw.on (below_regrown w2 d os)) ((Cs2.b).on (below_regrown w2 d os))
     rw [hwl] at this
     exact Calls.regrown_of this
    obtain ⟨RV, hRV⟩ : ∃ v, mnR (nbV 10 ((ys.take (m - 1)).drop 2) 0) = v := ⟨_, rfl⟩
    rw [hRV] at MC hfr
    obtain ⟨mm, hmm⟩ : ∃ n, m - 1 = n := ⟨_, rfl⟩
    rw [hmm] at MC hsl w1'
    have HK := Lib.hid (And.intro hfr bw2)
    have z0 := cell_regrown r0
    have z2 := cell_regrown r2
    clear hfr bw2 b02 x2 hb2 r0 r2 hm hlt hT2 hyw hwl hcy hm1 hlen hfm hRV hmm hfn Cs2
    go_wp2_with fail
    refine wp_region_quiet_below (by kernel_rfl) (by kernel_rfl) ?_
    repeat (go_big_quiet_step (exact MC _ _))
    refine wpQuiet_nil ?_
    intro _ hw'
    obtain ⟨⟨dq, osq⟩, hw''⟩ := hw'
    subst hw''
    have HB := Lib.hid (HK.out.2.trans ((below_regrown w2 dq osq).mono HK.out.2.size))
    clear z0 z2 MC hsl
    go_wp2_with fail
    refine bodyPost_ret (v := .tuple #[.int .i32 RV, .int .i64 (m : Int)]) ?_ rfl ⟨by first | rfl | (rw [HK.out.1]), HS.out.1.trans (HB.out.mono HS.out.1.size)⟩
    simp [results, Tryz.results133, go_sem]
  ·have hixq : ∀ W, (Instr.index 229 SV (.int .i64 2)).run Tryz.prog W = .ok (.agg #[.string ⟨#[38, 35, 120]⟩, .func (Fn.func 215) #[] #[.pointer (some ⟨g2 + 1, 0, none⟩), .pointer (some ⟨g2, 0, none⟩)], .func (Fn.func 217) #[] #[.pointer (some ⟨g2, 0, none⟩)]]) W := fun W => (HX.out W).2.2.1
   obtain ⟨W0, hW0⟩ : ∃ W, wr.alloc (.cells #[.string ⟨#[38, 35, 120]⟩, .func (Fn.func 215) #[] #[.pointer (some ⟨g2 + 1, 0, none⟩), .pointer (some ⟨g2, 0, none⟩)], .func (Fn.func 217) #[] #[.pointer (some ⟨g2, 0, none⟩)]] 228) = W := ⟨_, rfl⟩
   have hb0 : Below wr.heap.size wr W0 := by rw [← hW0]; exact below_new _ _
   have x0 : Cells W0 wr.heap.size 228 #[.string ⟨#[38, 35, 120]⟩, .func (Fn.func 215) #[] #[.pointer (some ⟨g2 + 1, 0, none⟩), .pointer (some ⟨g2, 0, none⟩)], .func (Fn.func 217) #[] #[.pointer (some ⟨g2, 0, none⟩)]] := by rw [← hW0]; exact cells_new _ _ _
   have hy0 := hy.on hb0
   have Cs : StyAt W0 g2 16 6 := ((HS.out.2.2.1).on hb).on hb0
   have C := follow67_any W0 [38, 35, 120] (by decide) (by decide) (mayD 16 6) ⟨g2 + 1, 0, none⟩ ⟨g2, 0, none⟩ 217 #[.pointer (some ⟨g2, 0, none⟩)] ys (some ⟨b, oq, none⟩) cq hy0 (fun W hbW b' o' cap' l cc hcc hBY =>
    (mayD_any (Or.inr rfl) 6 l _ cap' cc hBY.len (g2 + 1) g2 W ((Cs.m).on hbW) ((Cs.b).on hbW)).mono (fun e w' h => ⟨h.1, by rw [h.2]; exact Below.refl _ _⟩))
   have hT0 : S.Tabs W0 := hTr.below hb0 hTr.2
   obtain ⟨m, wh, hfm⟩ : ∃ m wh, followR [38, 35, 120] (mayD 16 6) ys = (m, wh) := ⟨_, _, rfl⟩
   rw [hfm] at C
   dsimp only at C
   have H0 := Lib.hid (And.intro C (And.intro x0 (And.intro hb0 (And.intro hy0 (And.intro hT0 (And.intro hre (And.intro hb hfm)))))))
   have HCs := Lib.hid Cs
   clear Cs
   have p0 := x0.cell 0
   have p1 := x0.cell 1
   have p2 := x0.cell 2
   simp at p0 p1 p2
   clear C x0 hb0 hy0 hy hTr hre hb hT0 hfm bw
   go_wp2_with fail
   refine H0.out.1.mono ?_
   rintro e w2 ⟨rfl, hb2⟩
   have b02 := H0.out.2.2.1.trans (hb2.mono H0.out.2.2.1.size)
   have bw2 := H0.out.2.2.2.2.2.2.1.trans (b02.mono H0.out.2.2.2.2.2.2.1.size)
   have x2 := H0.out.2.1.on hb2
   have r0 := x2.cell 0
   have r2 := x2.cell 2
   simp at r0 r2
   cases wh with
   | false =>
    have HB2 := Lib.hid bw2
    have hre2 : RE = readS (styL.drop 3) ys := by rw [H0.out.2.2.2.2.2.1]; exact readS_no (by have := H0.out.2.2.2.2.2.2.2; exact congrArg Prod.snd this)
    have HR2 := Lib.hid hre2
    clear bw2 b02 x2 hb2 r0 r2 hre2
    go_wp2_with fail
    go_roundw
    case rel => exact ⟨3, rfl, by decide, HR2.out, HB2.out⟩
    case measure => exact (by decide)
   | true =>
    have hfm : followR [38, 35, 120] (mayD 16 6) ys = (m, true) := H0.out.2.2.2.2.2.2.2
    have hm := follow_true hfm
    have hlt : 3 < m ∧ m ≤ ys.length := hm
    have hfr : RE = (mnR (nbV 16 ((ys.take (m - 1)).drop 3) 0), m) := by rw [H0.out.2.2.2.2.2.1]; exact readS_yes (s := stD [38, 35, 120] 16 6) hfm
    have hT2 : S.Tabs w2 := H0.out.2.2.2.2.1.below hb2 H0.out.2.2.2.2.1.2
    have hyw := (H0.out.2.2.2.1.on hb2).win 3 (m - 1) (by omega) (by omega)
    have hwl : ((ys.take (m - 1)).drop 3).length = m - 1 - 3 := by simp; omega
    have hcy := H0.out.2.2.2.1.l
    have hsl : ∀ W, (Instr.slice 22 (.slice (some ⟨b, oq, none⟩) ys.length cq) (some (.int .i64 3)) (some (.int .i64 ((m - 1 : Nat) : Int))) none).run Tryz.prog W = .ok (.slice (some ⟨b, oq + 3, none⟩) (m - 1 - 3) (cq - 3)) W := slice_win b oq ys.length cq 3 (m - 1) (by omega) (by omega) (by omega)
    have hm1 : ((m - 1 : Nat) : Int) = (m : Int) - 1 := by omega
    have hlen := H0.out.2.2.2.1.len
    have w1' : wrap64 ((m : Int) - 1) = ((m - 1 : Nat) : Int) := by unfold wrap64; omega
    have hfn := follow_num (by exact hfm)
    have Cs2 : StyAt w2 g2 16 6 := HCs.out.on hb2
    have MC : ∀ d os, Calls Tryz.prog 217 #[.slice (some ⟨b, oq + 3, none⟩) (m - 1 - 3) (cq - 3), .pointer (some ⟨g2, 0, none⟩)] (grow (redrawn w2 d) os) fun e w'' => e = .returned (.int .i32 (mnR (nbV 16 ((ys.take (m - 1)).drop 3) 0))) ∧ ∃ p : Regrown, w'' = grow (redrawn w2 p.d) p.os := fun d os => by
     have := means_any (Or.inr rfl) ((ys.take (m - 1)).drop 3) _ _ hfn.1 hfn.2.1 hfn.2.2 g2 (grow (redrawn w2 d) os) (hT2.below (below_regrown w2 d os) hT2.2) (hyw.on (below_regrown w2 d os)) ((Cs2.b).on (below_regrown w2 d os))
     rw [hwl] at this
     exact Calls.regrown_of this
    obtain ⟨RV, hRV⟩ : ∃ v, mnR (nbV 16 ((ys.take (m - 1)).drop 3) 0) = v := ⟨_, rfl⟩
    rw [hRV] at MC hfr
    obtain ⟨mm, hmm⟩ : ∃ n, m - 1 = n := ⟨_, rfl⟩
    rw [hmm] at MC hsl w1'
    have HK := Lib.hid (And.intro hfr bw2)
    have z0 := cell_regrown r0
    have z2 := cell_regrown r2
    clear hfr bw2 b02 x2 hb2 r0 r2 hm hlt hT2 hyw hwl hcy hm1 hlen hfm hRV hmm hfn Cs2
    go_wp2_with fail
    refine wp_region_quiet_below (by kernel_rfl) (by kernel_rfl) ?_
    repeat (go_big_quiet_step (exact MC _ _))
    refine wpQuiet_nil ?_
    intro _ hw'
    obtain ⟨⟨dq, osq⟩, hw''⟩ := hw'
    subst hw''
    have HB := Lib.hid (HK.out.2.trans ((below_regrown w2 dq osq).mono HK.out.2.size))
    clear z0 z2 MC hsl
    go_wp2_with fail
    refine bodyPost_ret (v := .tuple #[.int .i32 RV, .int .i64 (m : Int)]) ?_ rfl ⟨by first | rfl | (rw [HK.out.1]), HS.out.1.trans (HB.out.mono HS.out.1.size)⟩
    simp [results, Tryz.results133, go_sem]
  ·have hixq : ∀ W, (Instr.index 229 SV (.int .i64 3)).run Tryz.prog W = .ok (.agg #[.string ⟨#[38, 35, 88]⟩, .func (Fn.func 215) #[] #[.pointer (some ⟨g3 + 1, 0, none⟩), .pointer (some ⟨g3, 0, none⟩)], .func (Fn.func 217) #[] #[.pointer (some ⟨g3, 0, none⟩)]]) W := fun W => (HX.out W).2.2.2
   obtain ⟨W0, hW0⟩ : ∃ W, wr.alloc (.cells #[.string ⟨#[38, 35, 88]⟩, .func (Fn.func 215) #[] #[.pointer (some ⟨g3 + 1, 0, none⟩), .pointer (some ⟨g3, 0, none⟩)], .func (Fn.func 217) #[] #[.pointer (some ⟨g3, 0, none⟩)]] 228) = W := ⟨_, rfl⟩
   have hb0 : Below wr.heap.size wr W0 := by rw [← hW0]; exact below_new _ _
   have x0 : Cells W0 wr.heap.size 228 #[.string ⟨#[38, 35, 88]⟩, .func (Fn.func 215) #[] #[.pointer (some ⟨g3 + 1, 0, none⟩), .pointer (some ⟨g3, 0, none⟩)], .func (Fn.func 217) #[] #[.pointer (some ⟨g3, 0, none⟩)]] := by rw [← hW0]; exact cells_new _ _ _
   have hy0 := hy.on hb0
   have Cs : StyAt W0 g3 16 6 := ((HS.out.2.2.2.1).on hb).on hb0
   have C := follow67_any W0 [38, 35, 88] (by decide) (by decide) (mayD 16 6) ⟨g3 + 1, 0, none⟩ ⟨g3, 0, none⟩ 217 #[.pointer (some ⟨g3, 0, none⟩)] ys (some ⟨b, oq, none⟩) cq hy0 (fun W hbW b' o' cap' l cc hcc hBY =>
    (mayD_any (Or.inr rfl) 6 l _ cap' cc hBY.len (g3 + 1) g3 W ((Cs.m).on hbW) ((Cs.b).on hbW)).mono (fun e w' h => ⟨h.1, by rw [h.2]; exact Below.refl _ _⟩))
   have hT0 : S.Tabs W0 := hTr.below hb0 hTr.2
   obtain ⟨m, wh, hfm⟩ : ∃ m wh, followR [38, 35, 88] (mayD 16 6) ys = (m, wh) := ⟨_, _, rfl⟩
   rw [hfm] at C
   dsimp only at C
   have H0 := Lib.hid (And.intro C (And.intro x0 (And.intro hb0 (And.intro hy0 (And.intro hT0 (And.intro hre (And.intro hb hfm)))))))
   have HCs := Lib.hid Cs
   clear Cs
   have p0 := x0.cell 0
   have p1 := x0.cell 1
   have p2 := x0.cell 2
   simp at p0 p1 p2
   clear C x0 hb0 hy0 hy hTr hre hb hT0 hfm bw
   go_wp2_with fail
   refine H0.out.1.mono ?_
   rintro e w2 ⟨rfl, hb2⟩
   have b02 := H0.out.2.2.1.trans (hb2.mono H0.out.2.2.1.size)
   have bw2 := H0.out.2.2.2.2.2.2.1.trans (b02.mono H0.out.2.2.2.2.2.2.1.size)
   have x2 := H0.out.2.1.on hb2
   have r0 := x2.cell 0
   have r2 := x2.cell 2
   simp at r0 r2
   cases wh with
   | false =>
    have HB2 := Lib.hid bw2
    have hre2 : RE = readS (styL.drop 4) ys := by rw [H0.out.2.2.2.2.2.1]; exact readS_no (by have := H0.out.2.2.2.2.2.2.2; exact congrArg Prod.snd this)
    have HR2 := Lib.hid hre2
    clear bw2 b02 x2 hb2 r0 r2 hre2
    go_wp2_with fail
    go_roundw
    case rel => exact ⟨4, rfl, by decide, HR2.out, HB2.out⟩
    case measure => exact (by decide)
   | true =>
    have hfm : followR [38, 35, 88] (mayD 16 6) ys = (m, true) := H0.out.2.2.2.2.2.2.2
    have hm := follow_true hfm
    have hlt : 3 < m ∧ m ≤ ys.length := hm
    have hfr : RE = (mnR (nbV 16 ((ys.take (m - 1)).drop 3) 0), m) := by rw [H0.out.2.2.2.2.2.1]; exact readS_yes (s := stD [38, 35, 88] 16 6) hfm
    have hT2 : S.Tabs w2 := H0.out.2.2.2.2.1.below hb2 H0.out.2.2.2.2.1.2
    have hyw := (H0.out.2.2.2.1.on hb2).win 3 (m - 1) (by omega) (by omega)
    have hwl : ((ys.take (m - 1)).drop 3).length = m - 1 - 3 := by simp; omega
    have hcy := H0.out.2.2.2.1.l
    have hsl : ∀ W, (Instr.slice 22 (.slice (some ⟨b, oq, none⟩) ys.length cq) (some (.int .i64 3)) (some (.int .i64 ((m - 1 : Nat) : Int))) none).run Tryz.prog W = .ok (.slice (some ⟨b, oq + 3, none⟩) (m - 1 - 3) (cq - 3)) W := slice_win b oq ys.length cq 3 (m - 1) (by omega) (by omega) (by omega)
    have hm1 : ((m - 1 : Nat) : Int) = (m : Int) - 1 := by omega
    have hlen := H0.out.2.2.2.1.len
    have w1' : wrap64 ((m : Int) - 1) = ((m - 1 : Nat) : Int) := by unfold wrap64; omega
    have hfn := follow_num (by exact hfm)
    have Cs2 : StyAt w2 g3 16 6 := HCs.out.on hb2
    have MC : ∀ d os, Calls Tryz.prog 217 #[.slice (some ⟨b, oq + 3, none⟩) (m - 1 - 3) (cq - 3), .pointer (some ⟨g3, 0, none⟩)] (grow (redrawn w2 d) os) fun e w'' => e = .returned (.int .i32 (mnR (nbV 16 ((ys.take (m - 1)).drop 3) 0))) ∧ ∃ p : Regrown, w'' = grow (redrawn w2 p.d) p.os := fun d os => by
     have := means_any (Or.inr rfl) ((ys.take (m - 1)).drop 3) _ _ hfn.1 hfn.2.1 hfn.2.2 g3 (grow (redrawn w2 d) os) (hT2.below (below_regrown w2 d os) hT2.2) (hyw.on (below_regrown w2 d os)) ((Cs2.b).on (below_regrown w2 d os))
     rw [hwl] at this
     exact Calls.regrown_of this
    obtain ⟨RV, hRV⟩ : ∃ v, mnR (nbV 16 ((ys.take (m - 1)).drop 3) 0) = v := ⟨_, rfl⟩
    rw [hRV] at MC hfr
    obtain ⟨mm, hmm⟩ : ∃ n, m - 1 = n := ⟨_, rfl⟩
    rw [hmm] at MC hsl w1'
    have HK := Lib.hid (And.intro hfr bw2)
    have z0 := cell_regrown r0
    have z2 := cell_regrown r2
    clear hfr bw2 b02 x2 hb2 r0 r2 hm hlt hT2 hyw hwl hcy hm1 hlen hfm hRV hmm hfn Cs2
    go_wp2_with fail
    refine wp_region_quiet_below (by kernel_rfl) (by kernel_rfl) ?_
    repeat (go_big_quiet_step (exact MC _ _))
    refine wpQuiet_nil ?_
    intro _ hw'
    obtain ⟨⟨dq, osq⟩, hw''⟩ := hw'
    subst hw''
    have HB := Lib.hid (HK.out.2.trans ((below_regrown w2 dq osq).mono HK.out.2.size))
    clear z0 z2 MC hsl
    go_wp2_with fail
    refine bodyPost_ret (v := .tuple #[.int .i32 RV, .int .i64 (m : Int)]) ?_ rfl ⟨by first | rfl | (rw [HK.out.1]), HS.out.1.trans (HB.out.mono HS.out.1.size)⟩
    simp [results, Tryz.results133, go_sem]
end Go.Proofs.YtfafhbgkmlmmdaaGreatDoor
namespace Go.Proofs.YtfafhbgkmlmmdaaGreatDoor
open Go.RowKit Go.Shelf Go.Lib Go.Maps
theorem isFinal_any (X : Int) (w : World) : Calls Tryz.prog 160 #[.int .u8 X] w fun r w' => r = .returned (.bool (decide (64 ≤ X) && decide (X ≤ 126))) ∧ w' = w := by
 by_cases h : 64 ≤ X
 ·have d : decide (64 ≤ X) = true := by simpa using h
  rw [d, Bool.true_and]
  go_enter Tryz.func160, Tryz.ntmps160
  go_wp2_with fail
  go_ret
  exact ⟨rfl, rfl⟩
 ·have d : decide (64 ≤ X) = false := by simpa using h
  rw [d, Bool.false_and]
  go_enter Tryz.func160, Tryz.ntmps160
  go_wp2_with fail
  go_ret
  exact ⟨rfl, rfl⟩
theorem in_int {lo hi x : Nat} {L H X : Int} (hL : L = lo) (hH : H = hi) (hX : X = x) : inR lo hi x = (decide (L ≤ X) && decide (X ≤ H)) := by
 subst hL hH hX
 simp [inR]
theorem skip_any (xs : List Nat) (A : Option Addr) (cap : Nat) (lo hi : Nat) (L H : Int) (hL : L = lo) (hH : H = hi) (i : Nat) (hi' : i ≤ xs.length) (w : World) (h : BY w w.heap.size xs A cap) :
  Calls Tryz.prog 159 #[.slice A xs.length cap, .int .i64 (i : Int), .int .u8 L, .int .u8 H] w fun r w' => r = .returned (.int .i64 ((i + skipN lo hi (xs.drop i) : Nat) : Int)) ∧ w' = w := by
 have hlen := h.len
 obtain ⟨E, hE⟩ : ∃ E, i + skipN lo hi (xs.drop i) = E := ⟨_, rfl⟩
 obtain ⟨N, hN⟩ : ∃ N, xs.length = N := ⟨_, rfl⟩
 rw [hE, hN]
 rw [hN] at hi' hlen
 have HH := Lib.hid (And.intro h (And.intro hE (And.intro hN (And.intro hL hH))))
 clear h hE hN hL hH
 go_enter Tryz.func159, Tryz.ntmps159
 go_wp2_with fail
 go_loopw [1] (fun u wr => ∃ k : Nat, u = .int .i64 (k : Int) ∧ k ≤ N ∧ k + skipN lo hi (xs.drop k) = E ∧ wr = w) (fun u _ => N - (RowKit.intOf u).toNat)
 case atStart => exact ⟨i, rfl, hi', HH.out.2.1, rfl⟩
 case round =>
  obtain ⟨k, rfl, hk, hke, e⟩ := hrel
  obtain rfl := e.symm
  by_cases hlt : k < N
  ·have i1 : (k : Int) < (N : Int) := by omega
   obtain ⟨x, hx⟩ := at_lt (l := xs) (k := k) (by rw [HH.out.2.2.1]; exact hlt)
   obtain ⟨b, o, rfl, hbl, d0⟩ := HH.out.1.at hx
   have hin := in_int HH.out.2.2.2.1 HH.out.2.2.2.2 (rfl : (x : Int) = x)
   rw [drop_at hx] at hke
   generalize (x : Int) = X at *
   have HX := Lib.hid hx
   have HK := Lib.hid (And.intro hke hin)
   clear hx hke hin hbl
   by_cases c1 : L ≤ X
   ·have d1 : decide (L ≤ X) = true := by simpa using c1
    by_cases c2 : X ≤ H
    ·have d2 : decide (X ≤ H) = true := by simpa using c2
     have hn : k + 1 + skipN lo hi (xs.drop (k + 1)) = E := by
      have := HK.out.1
      rw [skipN, HK.out.2, d1, d2] at this
      simp at this
      omega
     have HN := Lib.hid hn
     clear hn c1 c2
     go_wp2_with fail
     go_roundw
     case rel => exact ⟨k + 1, by go_num, by omega, HN.out, trivial⟩
     case measure => simp [RowKit.intOf]; omega
    ·have d2 : decide (X ≤ H) = false := by simpa using c2
     have hn : k = E := by
      have := HK.out.1
      rw [skipN, HK.out.2, d1, d2] at this
      simpa using this
     subst hn
     clear c1 c2
     go_wp2_with fail
     go_ret
     exact ⟨rfl, rfl⟩
   ·have d1 : decide (L ≤ X) = false := by simpa using c1
    have hn : k = E := by
     have := HK.out.1
     rw [skipN, HK.out.2, d1] at this
     simpa using this
    subst hn
    clear c1
    go_wp2_with fail
    go_ret
    exact ⟨rfl, rfl⟩
  ·obtain rfl : k = N := by omega
   have i1 : ¬ (k : Int) < (k : Int) := by omega
   have hn : k = E := by
    rw [← HH.out.2.2.1, List.drop_length] at hke
    rw [← hke, ← HH.out.2.2.1]
    rfl
   have HN := Lib.hid hn
   clear hn hke
   go_wp2_with fail
   go_ret
   exact ⟨by rw [HN.out]; rfl, rfl⟩
end Go.Proofs.YtfafhbgkmlmmdaaGreatDoor
