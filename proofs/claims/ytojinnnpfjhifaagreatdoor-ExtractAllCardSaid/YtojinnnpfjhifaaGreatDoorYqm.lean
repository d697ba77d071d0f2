/-
  
  
  
  
  
  
  
  
  
  
  
-/
import Derived.Test.YtojinnnpfjhifaaGreatDoorYql
import Derived.Deep.AppendLies
import Derived.Test.YtojinnnpfjhifaaGreatDoorYqd
import Derived.Deep.CutRange
import Derived.Laws.AppendOwnNone
import Derived.Lib.SmallJoins
import Derived.PinnedBridge
import Derived.Lib.LaidU8
import Derived.ProofKit
import Derived.OpenShut
import Derived.Deep.SlicePairs
import Derived.Shelf.Vars
import Derived.Handed
import Derived.Lib.LaidTab
import Derived.Lib.TrailingZeros
import Derived.Test.YtojinnnpfjhifaaGreatDoorRows
import Derived.Test.YtojinnnpfjhifaaGreatDoorYqi
import Derived.Maps.AppendAt
namespace Go.Proofs.YtojinnnpfjhifaaGreatDoor
open Go.RowKit Go.Shelf Go.Lib Go.Maps Go.Great
attribute [local go_sem] Oper.semAt_some
attribute [local irreducible] NR ZNR FR nmE
def tiles : Nat → List TK → Nat → Prop
 | e, [], E => e = E
 | e, t :: r, E => t.fr = e ∧ e < t.to ∧ tiles t.to r E
theorem tiles_len : ∀ (l : List TK) (e E : Nat), tiles e l E → e + l.length ≤ E
 | [], e, E, h => by simp [tiles] at h; simp [h]
 | t :: r, e, E, h => by
  have := tiles_len r t.to E h.2.2
  have := h.2.1
  simp only [List.length_cons]
  omega
theorem tiles_txs {a b : Nat} (h : a ≤ b) {l : List TK} {E : Nat} (hl : tiles b l E) : tiles a (txs a b ++ l) E := by
 unfold txs
 split
 ·rename_i h1
  exact ⟨rfl, h1, hl⟩
 ·obtain rfl : a = b := by omega
  exact hl
theorem tiles_out {xs : List Nat} : ∀ (d k e : Nat), xs.length - k = d → e ≤ k → k ≤ xs.length → tiles e (outF e (marksL xs k) ++ txs (endF e (marksL xs k)) xs.length) xs.length := by
 intro d
 induction d using Nat.strongRecOn with
 | _ d ih =>
  intro k e hd he hk
  by_cases h : k < xs.length
  case neg =>
   rw [marksL_end h]
   show tiles e (txs e xs.length) xs.length
   have := tiles_txs (a := e) (b := xs.length) (by omega) (l := []) (E := xs.length) rfl
   rw [List.append_nil] at this
   exact this
  case pos =>
   cases hm : markT xs k with
   | none =>
    rw [marksL_none h hm]
    exact ih (xs.length - (k + 1)) (by omega) (k + 1) e rfl (by omega) (by omega)
   | some t =>
    rw [marksL_some h hm]
    have h1 := mark_to (by omega) hm
    have h2 := rawT_le (xs := xs) (x := t) h1.2.2.1
    show tiles e ((txs e t.fr ++ (t :: outF t.to (rawTok xs t ++ marksL xs (rawT xs t)))) ++ txs (endF t.to (rawTok xs t ++ marksL xs (rawT xs t))) xs.length) xs.length
    rw [List.append_assoc, h1.1]
    refine tiles_txs he ⟨h1.1, h1.2.1, ?_⟩
    show tiles t.to (outF t.to (rawTok xs t ++ marksL xs (rawT xs t)) ++ txs (endF t.to (rawTok xs t ++ marksL xs (rawT xs t))) xs.length) xs.length
    by_cases hr : t.to < rawT xs t
    ·have e1 : rawTok xs t = [⟨7, t.to, rawT xs t, [], 0, false⟩] := by unfold rawTok; rw [if_pos hr]
     rw [e1]
     have := ih (xs.length - rawT xs t) (by omega) (rawT xs t) (rawT xs t) rfl (Nat.le_refl _) h2.2
     have e2 : txs t.to t.to = [] := by unfold txs; rw [if_neg (Nat.lt_irrefl _)]
     show tiles t.to ((txs t.to t.to ++ (⟨7, t.to, rawT xs t, [], 0, false⟩ :: outF (rawT xs t) (marksL xs (rawT xs t)))) ++ txs (endF (rawT xs t) (marksL xs (rawT xs t))) xs.length) xs.length
     rw [e2]
     exact ⟨rfl, hr, this⟩
    ·have e1 : rawTok xs t = [] := by unfold rawTok; rw [if_neg hr]
     rw [e1]
     exact ih (xs.length - rawT xs t) (by omega) (rawT xs t) t.to rfl (by omega) h2.2
theorem eachL_tiles (xs : List Nat) : tiles 0 (eachL xs) xs.length := tiles_out (xs := xs) _ 0 0 rfl (Nat.le_refl _) (Nat.zero_le _)
theorem eachL_len (xs : List Nat) : (eachL xs).length ≤ xs.length := by
 have := tiles_len _ _ _ (eachL_tiles xs)
 omega
def rowC : List TK → List Value
 | [] => []
 | x :: r => (tokC x).toList ++ rowC r
theorem rowC_snoc (x : TK) : ∀ l : List TK, rowC (l ++ [x]) = rowC l ++ (tokC x).toList
 | [] => by simp [rowC]
 | t :: r => by
  show (tokC t).toList ++ rowC (r ++ [x]) = ((tokC t).toList ++ rowC r) ++ _
  rw [rowC_snoc x r]
  simp
def OwnT (w : World) (base : Nat) (l : List TK) (v : Value) : Prop := w.ownsRow base 40 6 v l.length (rowC l)
theorem OwnT.below {w w' : World} {base : Nat} {l : List TK} {v : Value} (h : OwnT w base l v) (hb : Below w.heap.size w w') : OwnT w' base l v := ownsRow_below h hb
theorem info30 : (Tryz.prog.info? 40).map (fun i => (i.zero.map (fun z => z.cells.size), i.size, i.bytes)) = some (some 6, 6, 48) := by kernel_rfl
theorem info30_parts : ∃ i z, Tryz.prog.info? 40 = some i ∧ i.zero = some z ∧ i.size = 6 ∧ i.bytes = 48 ∧ z.cells.size = 6 := by
 have h := info30
 cases e : Tryz.prog.info? 40 with
 | none => rw [e] at h; simp at h
 | some i =>
  rw [e] at h
  cases e2 : i.zero with
  | none => simp [e2] at h
  | some z =>
   simp [e2] at h
   exact ⟨i, z, rfl, e2, h.2.1, h.2.2, h.1⟩
theorem wpListIn_append_lies {F : Fence} {n' : Nat} {P : Program} {w : World} {ops : Array Oper} {rest : List Oper} {o : Oper} {a : Act} {Q : Exit → Act → World → Prop} (hgd : o.guard = none) (s x : Operand) (t : TypeId)
  (ho : o.op = .call { callee := .builtin .append, args := #[s, x], argTypes := #[t, t] })
  (base : Nat) (e : TypeId) (i : TypeInfo) (z : Value) (size bytes : Nat) (ht : P.underlying t = some (.slice e)) (hi : P.info? e = some i) (hz : i.zero = some z)
  (hsize : i.size = size) (hby : i.bytes = bytes) (hzs : z.cells.size = size) (hsz : 0 < size)
  (v : Value) (n : Nat) (xs : List Value) (hs : a.eval s = v) (hown : w.ownsRow base e size v n xs)
  (ad : Addr) (m c : Nat) (news : List Value) (hx : a.eval x = .slice (some ad) m c) (hl : news.length = m * size) (hnews : ∀ j u, news[j]? = some u → w.cell? (ad.add j) = some u) (h1 : ∀ u ∈ news, u.oneCell' = true)
  (hm : 0 < m) (h63 : n + m ≤ maxLen) (hbytes : (n + m) * bytes ≤ 140737488355328) (hbase : base ≤ w.heap.size) (H : Nat) (hH : w.heap.size = H)
  (h : ∀ g cap w', w'.ownsRow base e size (.slice (some ⟨g, 0, none⟩) (n + m) cap) (n + m) (xs ++ news) → w.grownBy w' v.ownBlock → (v.ownBlock = some g ∨ g = H) → g < w'.heap.size → wpListIn F n' P ops Q rest (a.put o.dst (.slice (some ⟨g, 0, none⟩) (n + m) cap)) w') :
  wpListIn F n' P ops Q (o :: rest) a w := by
 refine wpListIn_plain hgd fun K hK' => ?_
 obtain ⟨g, cap, w', hr, h2, h3, h4, h5⟩ := run_append_lies (P := P) w t o.type base e i z size bytes ht hi hz hsize hby hzs hsz v n xs hown ad m c news hl hnews h1 hm h63 hbytes hbase H hH
 unfold Oper.wpIn
 refine ⟨?_, ?_⟩
 ·simp [Oper.about, ho, resolve, Target.leads, Sem.run_pure]
 ·rw [Oper.semAt_plain F _ _ (by rw [ho]; intro c hc'; cases hc')]
  simp [execOp, ho, resolve, invoke, builtin, hs, hx, hr, Result.andThen]
  exact hK' _ _ (h g cap w' h2 h3 h4 h5)
theorem ownsRow_same {w w' : World} {B e z n : Nat} {v : Value} {xs : List Value} (h : w.ownsRow B e z v n xs) (hk : ∀ k, v.ownBlock = some k → w'.heap[k]? = w.heap[k]?) : w'.ownsRow B e z v n xs := by
 refine ⟨h.1, ?_⟩
 rcases h.2 with h2 | ⟨g, cap, cur, rfl, hb, hh, h5, h6, h7, h8⟩
 ·exact .inl h2
 ·exact .inr ⟨g, cap, cur, rfl, hb, (hk g rfl).trans hh, h5, h6, h7, h8⟩
theorem Fr.grown {X : Nat → Prop} {ob : Option Nat} {g : Nat} {W W' : World} (h : W.grownBy W' ob) (h' : ob = some g ∨ g = W.heap.size) (hlt : g < W'.heap.size) : Fr X ob (some g) W W' :=
 ⟨h.os, h.tape, h.output, h.size, fun k hk _ ho => h.block k hk (fun e => ho e.symm), by
  rcases h' with e | e
  ·exact .inl e.symm
  ·exact .inr ⟨g, rfl, by omega, hlt⟩⟩
set_option maxHeartbeats 8000000 in
set_option maxRecDepth 100000 in
theorem All_any (xs : List Nat) (A : Option Addr) (cap : Nat) (w : World) (hx : BY w w.heap.size xs A cap) (hl : xs.length ≤ 100000) (hM : G.MX w) (hT : S.Tabs w) :
  Calls Tryz.prog 14 #[.slice A xs.length cap] w fun e w' => ∃ v, e = .returned v ∧ OwnT w' w.heap.size (eachL xs) v ∧ Below w.heap.size w w' := by
 refine (callsIn_wide (n := 10)).1 ?_
 obtain ⟨W1, hW1⟩ : ∃ V, w.alloc (.cells #[.slice none 0 0] 37) = V := ⟨_, rfl⟩
 have b1 : Below w.heap.size w W1 := by rw [← hW1]; exact below_new w _
 have s1 : W1.heap.size = w.heap.size + 1 := by rw [← hW1]; simp
 have o1 : Cells W1 w.heap.size 37 #[.slice none 0 0] := by rw [← hW1]; exact cells_new _ _ _
 obtain ⟨W2, hW2⟩ : ∃ V, W1.alloc (.cells #[.slice A xs.length cap] 22) = V := ⟨_, rfl⟩
 have b12 : Below W1.heap.size W1 W2 := by rw [← hW2]; exact below_new W1 _
 have s2 : W2.heap.size = w.heap.size + 2 := by rw [← hW2]; simp [s1]
 have c2 : Cells W2 (w.heap.size + 1) 22 #[.slice A xs.length cap] := by rw [← s1, ← hW2]; exact cells_new _ _ _
 have o2 := o1.on b12
 have b2 : Below w.heap.size w W2 := b1.trans (b12.mono (by omega))
 have HE := each_hands 8 (by omega) xs A cap (w.heap.size + 1) w.heap.size (fun k => k = w.heap.size) W2 (hx.below b2) hl (hM.on (B := w.heap.size) hM.pos b2) (hT.below b2 (by have := hT.2; omega)) (by have := hT.2; omega) c2 (by omega) (fun k hk => by omega)
 have hcl := hx.l
 have hlen := eachL_len xs
 obtain ⟨N, hN⟩ : ∃ N, xs.length = N := ⟨_, rfl⟩
 rw [hN] at hl hlen hcl
 rw [hN] at hW2 c2
 rw [hN]
 obtain ⟨L, hL⟩ : ∃ L, eachL xs = L := ⟨_, rfl⟩
 rw [hL] at HE hlen
 rw [hL]
 have fa := o1.froz 0
 have q1 := o1.cell 0
 have q2 := o2.cell 0
 simp at q1 q2
 refine callsIn_of_wp_marks Tryz.func14 rfl trivial ?_ rfl
 simp only [Tryz.ntmps14, List.size_toArray, List.length_cons, List.length_nil, Nat.reduceAdd, Nat.reduceSub, Array.replicate_succ, Array.replicate_zero, List.push_toArray, List.append_toArray, List.nil_append, List.cons_append]
 gi_wp2_with (fail)
 refine ⟨trivial, ?_⟩
 gi_at_call 23
 refine (callsIn_wide.2 (each_any A N cap W1)).mono ?_
 rintro e _ ⟨rfl, rfl⟩
 rw [hW2]
 obtain ⟨I, hI⟩ : ∃ I : List TK → Option Nat → World → Prop, I = fun pre ob V => ∃ v, Cells V w.heap.size 37 #[v] ∧ V.ownsRow (w.heap.size + 4) 40 6 v pre.length (rowC pre) ∧ v.ownBlock = ob := ⟨_, rfl⟩
 have sI : Stab W2.heap.size I := fun pre ob V V' hv h1 h2 h3 h4 h5 => by
  rw [hI] at hv ⊢
  obtain ⟨v, v1, v2, v3⟩ := hv
  exact ⟨v, (h5 _ v1.lt (.inl (by omega))).trans v1, ownsRow_same v2 (fun k hk => h5 k (own_block_lt v2 k hk).2 (.inr (v3.symm.trans hk))), v3⟩
 have oI : ObIn (W2.heap.size + 2) I := fun pre k V hv => by
  rw [hI] at hv
  obtain ⟨v, v1, v2, v3⟩ := hv
  have := own_block_lt v2 k v3
  omega
 have hi0 : I [] none W2 := by
  rw [hI]
  exact ⟨_, o2, ⟨rfl, .inl ⟨rfl, rfl⟩⟩, rfl⟩
 gi_wp2_with (fail)
 refine wpIn_handsT (X := fun k => k = w.heap.size) (xs := L) (by omega) (gf := 34) (lb := #[.pointer (some ⟨w.heap.size + 1, 0, none⟩)]) rfl (enters_of Tryz.func34 (by kernel_rfl) rfl) (HE.anyN _) (fun k hk => by omega) rfl I (fun _ _ _ => False) sI (fun _ _ _ _ h => h.elim) oI (fun _ _ _ h => h.elim) hi0
  (fun x p => { tmps := #[.slice A N cap, undef, .slice none 0 0, .pointer (some ⟨w.heap.size, 0, none⟩), .pointer (some ⟨p, 0, none⟩), .slice A N cap, .func (.func 34) #[] #[.pointer (some ⟨w.heap.size + 1, 0, none⟩)], tokV x, undef, undef, undef, undef, undef], defers := [] }) ?assign ?body ?done ?stop
 case assign =>
  intro l1 x V K hK
  unfold tokV tokC
  unfold tokV tokC at hK
  gi_wp2_with (fail)
  exact hK
 case body =>
  intro l1 pre ob x p V hi hpre xV hp hob
  rw [hI] at hi
  obtain ⟨v, o4, r4, hv⟩ := hi
  have hVp := xV.lt
  have htc : (tokC x) = #[.int .i64 (x.kind : Int), .int .i64 (x.fr : Int), .int .i64 (x.to : Int), .string ⟨(G.u8s x.name).toArray⟩, .int .i32 x.r, .bool x.sg] := rfl
  obtain ⟨tv, htv⟩ : ∃ v, tokV x = v := ⟨_, rfl⟩
  have hrs := rowC_snoc x pre
  rw [htc] at xV hrs
  have hpl : pre.length < N := by
   have := hpre.length_le
   simp only [List.length_append, List.length_singleton] at this
   omega
  obtain ⟨SN, hSN⟩ : ∃ Sx : ByteArray, ⟨(G.u8s x.name).toArray⟩ = Sx := ⟨_, rfl⟩
  obtain ⟨kd, hkd⟩ : ∃ n, x.kind = n := ⟨_, rfl⟩
  obtain ⟨sg, hsg⟩ : ∃ n, x.sg = n := ⟨_, rfl⟩
  obtain ⟨fr, hfr⟩ : ∃ n, x.fr = n := ⟨_, rfl⟩
  obtain ⟨te, hte⟩ : ∃ n, x.to = n := ⟨_, rfl⟩
  obtain ⟨rr, hrr⟩ : ∃ n, x.r = n := ⟨_, rfl⟩
  rw [hSN, hkd, hsg, hfr, hte, hrr] at xV hrs
  rw [htv]
  have q0 := xV.cell 0
  have q1 := xV.cell 1
  have q2 := xV.cell 2
  have q3 := xV.cell 3
  have q4 := xV.cell 4
  have q5 := xV.cell 5
  have q6 := o4.cell 0
  simp at q0 q1 q2 q3 q4 q5 q6
  obtain ⟨V1, hV1⟩ : ∃ Z, V.alloc (.cells #[.int .i64 (kd : Int), .int .i64 (fr : Int), .int .i64 (te : Int), .string SN, .int .i32 rr, .bool sg] 40) = Z := ⟨_, rfl⟩
  have bV : Below V.heap.size V V1 := by rw [← hV1]; exact below_new V _
  have nV : ∀ (j : Nat) u, ([.int .i64 (kd : Int), .int .i64 (fr : Int), .int .i64 (te : Int), .string SN, .int .i32 rr, .bool sg] : List Value)[j]? = some u → V1.cell? ((⟨V.heap.size, 0, none⟩ : Addr).add j) = some u := by
   rw [← hV1]
   exact World.news_of_block (heap_alloc_new V _)
  have hone : ∀ u ∈ ([.int .i64 (kd : Int), .int .i64 (fr : Int), .int .i64 (te : Int), .string SN, .int .i32 rr, .bool sg] : List Value), u.oneCell' = true := fun u hu => by
   simp at hu
   rcases hu with rfl | rfl | rfl | rfl | rfl | rfl <;> rfl
  have r5 : V1.ownsRow (w.heap.size + 4) 40 6 v pre.length (rowC pre) := ownsRow_below r4 bV
  have hs1 : w.heap.size + 4 ≤ V1.heap.size := by have := bV.size; omega
  obtain ⟨ti, tz, t1, t2, t3, t4, t5⟩ := info30_parts
  have hK : ∀ g cp V2, V2.ownsRow (w.heap.size + 4) 40 6 (.slice (some ⟨g, 0, none⟩) (pre.length + 1) cp) (pre.length + 1) (rowC pre ++ [.int .i64 (kd : Int), .int .i64 (fr : Int), .int .i64 (te : Int), .string SN, .int .i32 rr, .bool sg]) → V1.grownBy V2 v.ownBlock → (v.ownBlock = some g ∨ g = V1.heap.size) → g < V2.heap.size →
    V2.cell? ⟨w.heap.size, 0, none⟩ = some v ∧ V2.frozen? ⟨w.heap.size, 0, none⟩ = false ∧ roundLeftT (fun k => k = w.heap.size) I (fun _ _ _ => False) (pre ++ [x]) ob V .normal { tmps := #[], defers := [] } (V2.setCell ⟨w.heap.size, 0, none⟩ (.slice (some ⟨g, 0, none⟩) (pre.length + 1) cp)) := by
   intro g cp V2 k1 k2 k3 k4
   have o5 : Cells V2 w.heap.size 37 #[v] := (k2.block _ (by have := o4.lt; have := bV.size; omega) (fun e => by have := (own_block_lt r4 _ e.symm).1; omega)).trans (o4.on bV)
   refine ⟨by simpa using o5.cell 0, o5.froz 0, some g, ?_, ?_⟩
   ·rw [hI]
    refine ⟨_, o5.set 0 _, ?_, rfl⟩
    rw [hrs, List.length_append]
    refine ownsRow_same k1 (fun k hk => Below.heap_setCell _ _ _ _ (fun e => ?_))
    have := (own_block_lt k1 k hk).1
    simp at e
    omega
   ·rw [← hv]
    exact ((Fr.of_below bV).trans (Fr.grown k2 k3 k4)).trans (Fr.setc _ _ _ _ rfl)
  have HU := Lib.hid (And.intro hK (And.intro r5 (And.intro nV (And.intro hone hs1))))
  clear hK r5 nV hone hs1 r4 o4 hI sI oI hi0 HE hpre hv hrs htc htv hob hx hM hT hSN hkd hsg hfr hte hrr
  gi_wp2_with (gi_at_builtin; refine wpListIn_append_lies rfl _ _ 37 rfl (w.heap.size + 4) 40 ti tz 6 48 (by kernel_rfl) t1 t2 t3 t4 t5 (by decide) v pre.length (rowC pre) rfl HU.out.2.1 ⟨V.heap.size, 0, none⟩ 1 1 _ rfl rfl HU.out.2.2.1 HU.out.2.2.2.1 (by decide) (by unfold maxLen; omega) (by omega) HU.out.2.2.2.2 _ rfl ?_; intro g cp V2 k1 k2 k3 k4; obtain ⟨z1, z2, z3⟩ := HU.out.1 g cp V2 k1 k2 k3 k4; clear k1 k2 k3 k4; replace z3 := Lib.hid z3)
  exact z3.out
 case done =>
  intro D ob V hD hv hf hKD
  obtain rfl : D = w.heap.size + 2 := by omega
  rw [hI] at hv
  obtain ⟨v, o4, r4, hv⟩ := hv
  have q3 := o4.cell 0
  simp at q3
  have bV : Below w.heap.size w V := b2.trans (hf.below (B := w.heap.size) (by omega) (fun k hk => by omega) (by simp))
  have HF := Lib.hid (And.intro r4 bV)
  clear hI sI oI hi0 HE r4 bV hv hf o4 hx hM hT
  dsimp only
  gi_wp2_with (fail)
  refine ⟨by simp, .inl ⟨_, _, rfl, run_takeDeferred hKD, ?_⟩⟩
  refine ⟨_, results_tmp rfl _ _ _, v, rfl, ?_, ?_⟩
  ·refine G.ownsRow_base (B := w.heap.size + 4) ?_ (by omega)
   exact ownsRow_same HF.out.1 (fun k hk => World.putObj_heap_other (by have := (own_block_lt HF.out.1 k hk).1; omega))
  ·exact ⟨HF.out.2.os, HF.out.2.tape, HF.out.2.output, by simpa [World.putObj] using HF.out.2.size, fun k hk => (World.putObj_heap_other (by omega)).trans (HF.out.2.block k hk)⟩
 case stop =>
  intro D ob pre V hD hpre hv hf hKD
  exact hv.elim
end Go.Proofs.YtojinnnpfjhifaaGreatDoor

namespace Go.Proofs.YtojinnnpfjhifaaGreatDoor
open Go.RowKit Go.Shelf Go.Lib Go.Maps Go.Great
attribute [local irreducible] NR ZNR FR nmE
structure TS (w : World) (B : Nat) (l : List TK) (A : Option Addr) (c : Nat) : Prop where
 le : l.length ≤ c
 mx : c ≤ maxLen
 r : ∀ (i : Nat) (x : TK), l[i]? = some x → ∃ b o, A = some ⟨b, o, none⟩ ∧ b < B ∧ w.cell? ⟨b, o + i * 6, none⟩ = some (.int .i64 (x.kind : Int)) ∧ w.cell? ⟨b, o + (i * 6 + 1), none⟩ = some (.int .i64 (x.fr : Int)) ∧
  w.cell? ⟨b, o + (i * 6 + 2), none⟩ = some (.int .i64 (x.to : Int)) ∧ w.cell? ⟨b, o + (i * 6 + 3), none⟩ = some (.string ⟨(G.u8s x.name).toArray⟩) ∧ w.cell? ⟨b, o + (i * 6 + 4), none⟩ = some (.int .i32 x.r) ∧ w.cell? ⟨b, o + (i * 6 + 5), none⟩ = some (.bool x.sg)
theorem TS.below {w w' : World} {B : Nat} {l : List TK} {A : Option Addr} {c : Nat} (h : TS w B l A c) (hb : Below B w w') : TS w' B l A c :=
 ⟨h.le, h.mx, fun i a ha => by
  obtain ⟨b, o, e, h1, h2, h3, h4, h5, h6, h7⟩ := h.r i a ha
  exact ⟨b, o, e, h1, (hb.cell (p := ⟨b, _, none⟩) h1).trans h2, (hb.cell (p := ⟨b, _, none⟩) h1).trans h3, (hb.cell (p := ⟨b, _, none⟩) h1).trans h4, (hb.cell (p := ⟨b, _, none⟩) h1).trans h5, (hb.cell (p := ⟨b, _, none⟩) h1).trans h6, (hb.cell (p := ⟨b, _, none⟩) h1).trans h7⟩⟩
theorem TS.mono {w : World} {B B' : Nat} {l : List TK} {A : Option Addr} {c : Nat} (h : TS w B l A c) (hB : B ≤ B') : TS w B' l A c :=
 ⟨h.le, h.mx, fun i a ha => by
  obtain ⟨b, o, e, h1, h2⟩ := h.r i a ha
  exact ⟨b, o, e, by omega, h2⟩⟩
theorem TS.on {w w' : World} {l : List TK} {A : Option Addr} {c : Nat} (h : TS w w.heap.size l A c) (hb : Below w.heap.size w w') : TS w' w'.heap.size l A c := (h.below hb).mono hb.size
theorem rowC_at : ∀ (l : List TK) (i : Nat) (x : TK), l[i]? = some x → ∀ j, j < 6 → (rowC l)[i * 6 + j]? = (tokC x)[j]?
 | [], i, a, h, _, _ => by simp at h
 | x :: l, 0, a, h, j, hj => by
  simp at h
  subst h
  rw [show rowC (x :: l) = (tokC x).toList ++ rowC l from rfl, Nat.zero_mul, Nat.zero_add, List.getElem?_append_left (by simpa [tokC] using hj)]
  simp
 | x :: l, i + 1, a, h, j, hj => by
  have ih := rowC_at l i a (by simpa using h) j hj
  rw [show rowC (x :: l) = (tokC x).toList ++ rowC l from rfl, List.getElem?_append_right (by simp [tokC]; omega)]
  rw [← ih]
  congr 1
  simp [tokC]
  omega
theorem TS.of_own {w : World} {base : Nat} {l : List TK} {v : Value} (h : OwnT w base l v) : ∃ A c, v = .slice A l.length c ∧ TS w w.heap.size l A c := by
 rcases h.2 with ⟨h1, h2⟩ | ⟨g, cap, cur, h1, h2, h3, h4, h5, h6, h7⟩
 ·have hn : l = [] := List.eq_nil_of_length_eq_zero h2
  subst hn
  exact ⟨none, 0, by rw [h1]; rfl, ⟨Nat.le_refl _, by unfold maxLen; omega, fun i a ha => by simp at ha⟩⟩
 ·refine ⟨_, cap, h1, ⟨h4, h5, fun i a ha => ⟨g, 0, rfl, (Array.getElem?_eq_some_iff.1 h3).1, ?_⟩⟩⟩
  have c := fun j hj u (hu : (tokC a)[j]? = some u) => World.ownsRow.cells h (g := g) (by rw [h1]; rfl) (i * 6 + j) u ((rowC_at l i a ha j hj).trans hu)
  have d0 := c 0 (by omega) _ rfl
  have d1 := c 1 (by omega) _ rfl
  have d2 := c 2 (by omega) _ rfl
  have d3 := c 3 (by omega) _ rfl
  have d4 := c 4 (by omega) _ rfl
  have d5 := c 5 (by omega) _ rfl
  rw [add0] at d0 d1 d2 d3 d4 d5
  simp only [Nat.zero_add]
  exact ⟨d0, d1, d2, d3, d4, d5⟩
theorem isRaw_kind {x : TK} (h : isRaw x = true) : x.kind = 2 := by
 unfold isRaw at h
 simp only [Bool.and_eq_true, decide_eq_true_eq] at h
 exact h.1.1
end Go.Proofs.YtojinnnpfjhifaaGreatDoor

namespace Go.Proofs.YtojinnnpfjhifaaGreatDoor.K
open Go.RowKit Go.Shelf Go.Lib Go.Maps
attribute [local irreducible] nmL ofN
structure ES where
 c : Ct
 f : Bool
 x : Bool
def es0 : ES := ⟨⟨0, 0, 0⟩, false, false⟩
def nmB (t : TK) : ByteArray := ⟨(G.u8s t.name).toArray⟩
theorem nmB_size (t : TK) : (nmB t).size = t.name.length := by simp [nmB, G.u8s, ByteArray.size]
def ES.cs (s : ES) (t : TK) : Ct := takeC (nameN (nmB t)) (t.kind : Int) t.sg s.c
def ES.fs (s : ES) (t : TK) : Bool := s.f || takeF (nameN (nmB t)) (t.kind : Int) s.c
def ES.xs (s : ES) (t : TK) : Bool := s.x || takeX (nameN (nmB t)) (t.kind : Int) s.c
def ES.turn (s : ES) (t : TK) : ES := ⟨s.cs t, tkG t.kind (s.cs t) (s.fs t), tkG t.kind (s.cs t) (s.xs t)⟩
def ES.items (s : ES) (B : Nat → Nat) (t : TK) : List IT := tkI t.kind t.fr t.to t.r (t.to - t.fr) (fun j => B (t.fr + j)) (s.cs t) (s.fs t) (s.xs t)
def allI (B : Nat → Nat) : ES → List TK → List IT
 | _, [] => []
 | s, t :: r => s.items B t ++ allI B (s.turn t) r
theorem items_len (s : ES) (B : Nat → Nat) (t : TK) (h : t.fr < t.to) : (s.items B t).length ≤ t.to - t.fr := by
 unfold ES.items tkI
 split
 ·exact Nat.zero_le _
 ·split
  ·exact textF_len _ _ _ _ _ _ _ _ _
  ·split
   ·show 1 ≤ t.to - t.fr
    omega
   ·exact Nat.zero_le _
theorem turn_ok (s : ES) (t : TK) (h : s.c.ok) : (s.turn t).c.ok := takeC_ok _ _ _ h
def bF (xs : List Nat) (j : Nat) : Nat := xs.getD j 0
theorem by_bs {w : World} {B : Nat} {xs : List Nat} {b o cap : Nat} (h : BY w B xs (some ⟨b, o, none⟩) cap) (fr tt : Nat) (ht : tt ≤ xs.length) : S.Bs w b (o + fr) (tt - fr) (fun j => bF xs (fr + j)) := fun j hj => by
 have hlt : fr + j < xs.length := by omega
 obtain ⟨b', o', e, _, hr⟩ := h.r (by rintro rfl; simp at hlt)
 cases e
 have e2 : xs[fr + j]? = some (bF xs (fr + j)) := by
  unfold bF
  rw [List.getD_eq_getElem?_getD, List.getElem?_eq_getElem hlt]
  rfl
 have := hr (fr + j) _ e2
 rw [← Nat.add_assoc] at this
 exact ⟨this, h.i _ (List.mem_of_getElem? e2)⟩
theorem refStep_tn (s : G.RS) (c : Nat) : (G.refStep s c).1.tn.length ≤ s.tn.length + 1 := by
 unfold G.refStep
 split
 all_goals (repeat' split)
 all_goals simp
theorem refGo_name (N k : Nat) : ∀ (l : List Nat) (s : G.RS), (G.refGo N k s l).name.length ≤ s.tn.length + l.length
 | [], s => Nat.le_refl _
 | c :: t, s => by
  have h := refStep_tn s c
  unfold G.refGo
  split
  ·show (G.refStep s c).1.tn.length ≤ _
   simp only [List.length_cons]
   omega
  ·have := refGo_name N k t (G.refStep s c).1
   simp only [List.length_cons]
   omega
theorem upGo_name (N k : Nat) (e : List Nat) : ∀ l, (G.upGo N k e l).name = []
 | [] => rfl
 | c :: t => by
  unfold G.upGo
  split
  ·rfl
  ·exact upGo_name N k e t
theorem rdT_name {l : List Nat} {T : G.TG} (h : G.rdT l = some T) : T.name.length ≤ l.length := by
 unfold G.rdT at h
 split at h
 ·split at h
  ·cases h
  ·split at h
   ·cases h
    refine Nat.le_trans (refGo_name _ _ _ _) ?_
    simp [G.rs0]
   ·split at h
    ·cases h
     refine Nat.le_trans (refGo_name _ _ _ _) ?_
     simp [G.rs0]
     omega
    ·split at h
     ·cases h
      rw [upGo_name]
      simp
     ·split at h
      ·cases h
       rw [upGo_name]
       simp
      ·cases h
 ·cases h
theorem mark_name {xs : List Nat} {k : Nat} {t : TK} (h : markT xs k = some t) : t.name.length ≤ xs.length := by
 unfold markT at h
 split at h
 ·rename_i T hT
  cases h
  have := rdT_name hT
  simp at this
  show T.name.length ≤ _
  omega
 ·split at h
  ·cases h
   exact Nat.zero_le _
  ·split at h
   ·cases h
    exact Nat.zero_le _
   ·cases h
theorem marks_all {xs : List Nat} (Q : TK → Prop) (h7 : ∀ a b, Q ⟨7, a, b, [], 0, false⟩) (hm : ∀ k t, k < xs.length → markT xs k = some t → Q t) : ∀ (d k : Nat), xs.length - k = d → ∀ t ∈ marksL xs k, Q t := by
 intro d
 induction d using Nat.strongRecOn with
 | _ d ih =>
  intro k hd t ht
  by_cases h : k < xs.length
  case neg =>
   rw [marksL_end h] at ht
   simp at ht
  case pos =>
   cases hk : markT xs k with
   | none =>
    rw [marksL_none h hk] at ht
    exact ih _ (by omega) (k + 1) rfl t ht
   | some y =>
    rw [marksL_some h hk] at ht
    have h2 := rawT_gt h hk
    rcases List.mem_cons.1 ht with rfl | ht
    ·exact hm k _ h hk
    ·rcases List.mem_append.1 ht with ht | ht
     ·unfold rawTok at ht
      split at ht
      ·simp at ht
       subst ht
       exact h7 _ _
      ·simp at ht
     ·exact ih _ (by omega) (rawT xs y) rfl t ht
theorem txs_all (Q : TK → Prop) (h0 : ∀ a b, Q (txT a b)) (a b : Nat) : ∀ t ∈ txs a b, Q t := fun t ht => by
 unfold txs at ht
 split at ht
 ·simp at ht
  subst ht
  exact h0 _ _
 ·simp at ht
theorem out_all (Q : TK → Prop) (h0 : ∀ a b, Q (txT a b)) : ∀ (l : List TK) (e : Nat), (∀ t ∈ l, Q t) → ∀ t ∈ outF e l, Q t
 | [], _, _, t, ht => by simp [outF] at ht
 | y :: r, e, h, t, ht => by
  rcases List.mem_append.1 (show t ∈ txs e y.fr ++ (y :: outF y.to r) from ht) with ht | ht
  ·exact txs_all Q h0 _ _ t ht
  ·rcases List.mem_cons.1 ht with rfl | ht
   ·exact h _ (List.mem_cons_self ..)
   ·exact out_all Q h0 r y.to (fun u hu => h u (List.mem_cons_of_mem _ hu)) t ht
theorem each_all {xs : List Nat} (Q : TK → Prop) (h0 : ∀ a b, Q (txT a b)) (h7 : ∀ a b, Q ⟨7, a, b, [], 0, false⟩) (hm : ∀ k t, k < xs.length → markT xs k = some t → Q t) : ∀ t ∈ eachL xs, Q t := fun t ht => by
 rcases List.mem_append.1 (show t ∈ outF 0 (marksL xs 0) ++ txs (endF 0 (marksL xs 0)) xs.length from ht) with ht | ht
 ·exact out_all Q h0 _ _ (marks_all Q h7 hm _ 0 rfl) t ht
 ·exact txs_all Q h0 _ _ t ht
theorem each_name (xs : List Nat) : ∀ t ∈ eachL xs, t.name.length ≤ xs.length :=
 each_all (fun t => t.name.length ≤ xs.length) (fun _ _ => Nat.zero_le _) (fun _ _ => Nat.zero_le _) (fun _ _ _ h => mark_name h)
theorem tiles_le : ∀ (l : List TK) (e E : Nat), tiles e l E → e ≤ E
 | [], e, E, h => by simp [tiles] at h; omega
 | t :: r, e, E, h => by
  have := tiles_le r t.to E h.2.2
  have := h.2.1
  omega
theorem drop_cons {α : Type} {l : List α} {k : Nat} {a : α} (h : l[k]? = some a) : l.drop k = a :: l.drop (k + 1) := by
 obtain ⟨h1, h2⟩ := List.getElem?_eq_some_iff.1 h
 rw [← h2]
 exact List.drop_eq_getElem_cons h1
end Go.Proofs.YtojinnnpfjhifaaGreatDoor.K

namespace Go.Proofs.YtojinnnpfjhifaaGreatDoor.K
open Go.RowKit Go.Shelf Go.Lib Go.Maps
attribute [local irreducible] nmL ofN
set_option maxRecDepth 100000 in
set_option maxHeartbeats 4000000 in
theorem xnew_any (w : World) : Calls Tryz.prog 13 #[] w fun e w' => e = .returned (.pointer (some ⟨w.heap.size + 1, 0, none⟩)) ∧ w' = (w.alloc (.cells (ctA ⟨0, 0, 0⟩) 81)).alloc (.cells (exA w.heap.size false false) 63) := by
 have CN := new_any w
 obtain ⟨W1, hW1⟩ : ∃ V, w.alloc (.cells (ctA ⟨0, 0, 0⟩) 81) = V := ⟨_, rfl⟩
 have s1 : W1.heap.size = w.heap.size + 1 := by rw [← hW1]; simp
 rw [hW1] at CN ⊢
 rw [← s1]
 unfold exA
 have HW := Lib.hid hW1
 clear hW1 s1
 go_enter Tryz.func13, Tryz.ntmps13
 go_wp2_with fail
 refine CN.mono ?_
 rintro e w1 ⟨rfl, rfl⟩
 clear CN
 go_wp2_with fail
 go_ret
 exact ⟨rfl, rfl⟩
theorem etake_any (t : TK) (s : ES) (xs : List Nat) (hl : xs.length ≤ 100000) (ht : t.fr < t.to) (hto : t.to ≤ xs.length) (hnm : t.name.length ≤ xs.length) (gn gx : Nat) (hgn : gn ≠ gx) (hg5 : 5 ≤ gx) (hn5 : 5 ≤ gn) (hc : s.c.ok) (b o cap B : Nat)
  (w : World) (hn : NeAt w gn s.c) (hx : Cells w gx 63 (exA gn s.f s.x)) (hM : MX w) (hT : S.Tabs w) (hb : BY w B xs (some ⟨b, o, none⟩) cap) (hbx : b ≠ gx) (hbn : b ≠ gn) :
  Calls Tryz.prog 15 #[.pointer (some ⟨gx, 0, none⟩), tokV t, .slice (some ⟨b, o + t.fr, none⟩) (t.to - t.fr) (cap - t.fr)] w fun e w' => ∃ v, e = .returned v ∧
   OwnIt w' w.heap.size (s.items (bF xs) t) v ∧ (s.items (bF xs) t = [] → v = .slice none 0 0) ∧ NeAt w' gn (s.turn t).c ∧ Cells w' gx 63 (exA gn (s.turn t).f (s.turn t).x) ∧ Fz (fun k => k = gn ∨ k = gx) w w' :=
 xtake_any t.kind t.fr t.to (nmB t) t.r t.sg (by rw [nmB_size]; omega) gn gx hgn hg5 hn5 s.c hc s.f s.x (some ⟨b, o + t.fr, none⟩) (t.to - t.fr) (cap - t.fr) (fun j => bF xs (t.fr + j)) (by omega) (by have := hb.l; omega) (by have := hb.m; omega) (by omega) (by omega) w hn hx hM hT
  (fun _ => ⟨b, o + t.fr, rfl, by_bs hb t.fr t.to hto, hbx, hbn, by omega⟩)
theorem fz_cell {X : Nat → Prop} {w w' : World} (h : Fz X w w') {b o : Nat} {v : Value} (hc : w.cell? ⟨b, o, none⟩ = some v) (hX : ¬ X b) : w'.cell? ⟨b, o, none⟩ = some v :=
 (World.cell?_of_block (a := ⟨b, o, none⟩) (h.block b (block_lt_of_cell hc) hX)).trans hc
structure AW (w2 : World) (gn gx : Nat) (s : ES) (W : World) : Prop where
 ok : s.c.ok
 n : NeAt W gn s.c
 x : Cells W gx 63 (exA gn s.f s.x)
 z : Fz (fun k => k = gn ∨ k = gx) w2 W
set_option maxRecDepth 100000 in
set_option maxHeartbeats 8000000 in
theorem xall_any (xs : List Nat) (A : Option Addr) (cap : Nat) (w : World) (hb : BY w w.heap.size xs A cap) (hl : xs.length ≤ 100000) (hM : G.MX w) (hT : S.Tabs w) :
  Calls Tryz.prog 8 #[.slice A xs.length cap] w fun e w' => ∃ v, e = .returned v ∧ OwnIt w' w.heap.size (allI (bF xs) es0 (eachL xs)) v ∧ Below w.heap.size w w' := by
 have CT := fun W (h : Below w.heap.size w W) => All_any xs A cap W (hb.on h) hl (hM.on hM.pos h) (hT.below h (by have := hT.2; omega))
 have CN := xnew_any w
 obtain ⟨L, hL⟩ : ∃ q, eachL xs = q := ⟨_, rfl⟩
 have htl : tiles 0 L xs.length := by rw [← hL]; exact eachL_tiles xs
 have hnm : ∀ t ∈ L, t.name.length ≤ xs.length := by rw [← hL]; exact each_name xs
 simp only [hL] at CT
 rw [hL]
 obtain ⟨ALL, hALL⟩ : ∃ q, allI (bF xs) es0 L = q := ⟨_, rfl⟩
 rw [hALL]
 obtain ⟨N, hN⟩ : ∃ q, xs.length = q := ⟨_, rfl⟩
 rw [hN] at htl hnm hl CT ⊢
 have hcap := hb.l
 have hmx := hb.m
 rw [hN] at hcap
 have h5 := hT.2
 obtain ⟨gn, hgn⟩ : ∃ q, w.heap.size = q := ⟨_, rfl⟩
 have HC := Lib.hid CT
 have HL := Lib.hid (And.intro hL (And.intro htl (And.intro hnm (And.intro hALL (And.intro hN (And.intro hl hgn))))))
 have HB := Lib.hid (And.intro hb (And.intro hM (And.intro hT h5)))
 clear CT hL htl hnm hALL hN hl hb hM hT h5
 rw [hgn] at CN ⊢
 clear hgn
 go_enter Tryz.func8, Tryz.ntmps8
 go_wp2_with fail
 refine CN.mono ?_
 rintro e w1 ⟨rfl, hw1⟩
 clear CN
 have b0 := below_new w (.cells (ctA ⟨0, 0, 0⟩) 81)
 have n0 := cells_new w (ctA ⟨0, 0, 0⟩) 81
 obtain ⟨w0, hw0⟩ : ∃ V, w.alloc (.cells (ctA ⟨0, 0, 0⟩) 81) = V := ⟨_, rfl⟩
 have s0 : w0.heap.size = gn + 1 := by rw [← hw0, ← HL.out.2.2.2.2.2.2]; simp
 rw [hw0] at b0 n0 hw1
 have b1 := below_new w0 (.cells (exA gn false false) 63)
 have x1 := cells_new w0 (exA gn false false) 63
 rw [← hw1] at b1 x1
 have n1 : NeAt w1 gn ⟨0, 0, 0⟩ := by
  have := Cells.on n0 b1
  rw [HL.out.2.2.2.2.2.2] at this
  exact this
 have s1 : w1.heap.size = gn + 2 := by rw [hw1]; simp [s0]
 have bw1 : Below w.heap.size w w1 := b0.trans (b1.mono b0.size)
 rw [s0] at x1
 obtain ⟨gx, hgx⟩ : ∃ q, gn + 1 = q := ⟨_, rfl⟩
 rw [hgx] at x1 ⊢
 have H1 := Lib.hid (And.intro n1 (And.intro x1 (And.intro bw1 (And.intro s1 hgx))))
 clear b0 n0 hw0 s0 hw1 b1 x1 n1 s1 bw1 hgx
 go_wp2_with fail
 refine (HC.out w1 H1.out.2.2.1).mono ?_
 rintro e w2 ⟨v, rfl, ho, b2⟩
 obtain ⟨A2, c2, rfl, hS⟩ := TS.of_own ho
 have hbt : ∀ bb oo, A2 = some ⟨bb, oo, none⟩ → w1.heap.size ≤ bb := fun bb oo e => (own_block_lt ho bb (by rw [e]; rfl)).1
 have hle := hS.le
 have hmx2 := hS.mx
 obtain ⟨n, hn⟩ : ∃ n, L.length = n := ⟨_, rfl⟩
 rw [hn] at hle ⊢
 have H2 := Lib.hid (And.intro hS (And.intro b2 (And.intro hbt hn)))
 have HA2 : AW w2 gn gx es0 w2 := ⟨ok0, Cells.on H1.out.1 b2, Cells.on H1.out.2.1 b2, Fz.refl _ _⟩
 have HA := Lib.hid HA2
 have hgw := HL.out.2.2.2.2.2.2
 have hs1 := H1.out.2.2.2.1
 have hgx1 := H1.out.2.2.2.2
 have b12 : Below gn w w2 := by
  rw [← hgw]
  exact H1.out.2.2.1.trans (b2.mono H1.out.2.2.1.size)
 have hs2 := b2.size
 have HW2 := Lib.hid (And.intro b12 (And.intro (show gn ≤ w2.heap.size by omega) (And.intro (show ∀ q, q < gn → ¬ (q = gn ∨ q = gx) by intro q hq; omega) (And.intro (show gx < w2.heap.size by omega) (show gn < gx ∧ gx < w1.heap.size by omega)))))
 clear hgw hs1 hgx1 b12 hs2
 clear ho b2 hS hbt hn HA2
 go_wp2_with fail
 go_loopw [3, 6, 11] (fun o _ i wr => ∃ (k : Nat) (pre : List IT) (s : ES) (e : Nat), k ≤ n ∧ i = .int .i64 (k : Int) ∧ OwnIt wr w2.heap.size pre o ∧ AW w2 gn gx s wr ∧ pre ++ allI (bF xs) s (L.drop k) = ALL ∧ tiles e (L.drop k) N ∧ pre.length ≤ e) (fun _ _ i _ => n - (RowKit.intOf i).toNat)
 case atStart => exact ⟨0, [], es0, 0, Nat.zero_le _, rfl, ownIt_nil _ _, HA.out, by simpa using HL.out.2.2.2.1, by simpa using HL.out.2.1, Nat.zero_le _⟩
 case round =>
  obtain ⟨k, pre, s, e, hk, rfl, ho, ha, hall, htl, hpe⟩ := hrel
  by_cases hkn : k < n
  case pos =>
   have i1 : (k : Int) < (n : Int) := by omega
   obtain ⟨t, ht⟩ : ∃ t, L[k]? = some t := ⟨_, List.getElem?_eq_getElem (by rw [H2.out.2.2.2]; exact hkn)⟩
   rw [drop_cons ht] at hall htl
   have hmem : t ∈ L := List.mem_of_getElem? ht
   have hnmt := HL.out.2.2.1 t hmem
   have hto : t.to ≤ N := tiles_le _ _ _ htl.2.2
   have hfr : t.fr < t.to := by rw [htl.1]; exact htl.2.1
   have hlN := HL.out.2.2.2.2.2.1
   have hxN := HL.out.2.2.2.2.1
   obtain ⟨b, o', rfl, hbw, _⟩ := HB.out.1.r (by rintro rfl; simp at hxN; omega)
   obtain ⟨tb, oo, rfl, htb, d0, d1, d2, d3, d4, d5⟩ := H2.out.1.r k t ht
   have htb1 := H2.out.2.2.1 tb oo rfl
   have hgg := HW2.out.2.2.2.2
   have hne : ¬ (tb = gn ∨ tb = gx) := by omega
   have hcl := cap
   have d0 := fz_cell ha.z d0 hne
   have d1 := fz_cell ha.z d1 hne
   have d2 := fz_cell ha.z d2 hne
   have d3 := fz_cell ha.z d3 hne
   have d4 := fz_cell ha.z d4 hne
   have d5 := fz_cell ha.z d5 hne
   have bwr : Below gn w wr := HW2.out.1.trans (ha.z.below HW2.out.2.1 HW2.out.2.2.1)
   have CK := fun W (h1 : NeAt W gn s.c) (h2 : Cells W gx 63 (exA gn s.f s.x)) (h3 : Below gn w W) => etake_any t s xs (by omega) hfr (by omega) (by omega) gn gx (by omega) (by have := HB.out.2.2.2; have := HL.out.2.2.2.2.2.2; omega) (by have := HB.out.2.2.2; have := HL.out.2.2.2.2.2.2; omega) ha.ok b o' cap w.heap.size W h1 h2
    (HB.out.2.1.on (by have := HB.out.2.2.2; have := HL.out.2.2.2.2.2.2; omega) h3) (HB.out.2.2.1.below h3 (by have := HB.out.2.2.2; have := HL.out.2.2.2.2.2.2; omega)) (HB.out.1.below (by rw [HL.out.2.2.2.2.2.2]; exact h3)) (by have := HL.out.2.2.2.2.2.2; omega) (by have := HL.out.2.2.2.2.2.2; omega)
   have hsl : ∀ W, (Instr.slice 22 (.slice (some ⟨b, o', none⟩) N cap) (some (.int .i64 (t.fr : Int))) (some (.int .i64 (t.to : Int))) none).run Tryz.prog W = .ok (.slice (some ⟨b, o' + t.fr, none⟩) (t.to - t.fr) (cap - t.fr)) W :=
    fun W => slice_win b o' N cap t.fr t.to (by omega) (by omega) (by omega) W
   have hil := items_len s (bF xs) t hfr
   obtain ⟨SN, hSN⟩ : ∃ q : ByteArray, (⟨(G.u8s t.name).toArray⟩ : ByteArray) = q := ⟨_, rfl⟩
   have htv : tokV t = .agg #[.int .i64 (t.kind : Int), .int .i64 (t.fr : Int), .int .i64 (t.to : Int), .string SN, .int .i32 t.r, .bool t.sg] := by rw [← hSN]; rfl
   have hok' := turn_ok s t ha.ok
   obtain ⟨its, hits⟩ : ∃ q, s.items (bF xs) t = q := ⟨_, rfl⟩
   obtain ⟨s', hs'⟩ : ∃ q, s.turn t = q := ⟨_, rfl⟩
   simp only [htv, hits, hs'] at CK
   have hall : pre ++ (its ++ allI (bF xs) s' (L.drop (k + 1))) = ALL := by rw [← hits, ← hs']; exact hall
   rw [hits] at hil
   rw [hs'] at hok'
   rw [hSN] at d3
   have e1 : wr.cell? ⟨tb, oo + k * 6 + 1, none⟩ = some (.int .i64 (t.fr : Int)) := by rw [Nat.add_assoc]; exact d1
   have e2 : wr.cell? ⟨tb, oo + k * 6 + 2, none⟩ = some (.int .i64 (t.to : Int)) := by rw [Nat.add_assoc]; exact d2
   have e3 : wr.cell? ⟨tb, oo + k * 6 + 3, none⟩ = some (.string SN) := by rw [Nat.add_assoc]; exact d3
   have e4 : wr.cell? ⟨tb, oo + k * 6 + 4, none⟩ = some (.int .i32 t.r) := by rw [Nat.add_assoc]; exact d4
   have e5 : wr.cell? ⟨tb, oo + k * 6 + 5, none⟩ = some (.bool t.sg) := by rw [Nat.add_assoc]; exact d5
   have hpe' : pre.length + its.length ≤ t.to := by have := htl.1; omega
   have HR := Lib.hid (And.intro ha (And.intro ho (And.intro hall (And.intro htl.2.2 (And.intro hpe' (And.intro hok' (And.intro bwr (And.intro hto hlN))))))))
   have HK := Lib.hid CK
   have HS := Lib.hid hsl
   have hnN : n ≤ 100000 := by
    have h1 := tiles_len _ _ _ HL.out.2.1
    have h2 := H2.out.2.2.2
    omega
   have ik : (k : Int) ≤ 100000 := by omega
   clear hnN
   clear ha ho hall htl hpe hpe' hok' bwr hto hlN CK hsl ht hmem hnmt hfr hxN hil htv hits hs' hSN hgg hne hcl hbw htb htb1
   go_upto_region 6 with fail
   have tk := cells_new wr #[.int .i64 (t.kind : Int), .int .i64 (t.fr : Int), .int .i64 (t.to : Int), .string SN, .int .i32 t.r, .bool t.sg] 40
   have bk := below_new wr (.cells #[.int .i64 (t.kind : Int), .int .i64 (t.fr : Int), .int .i64 (t.to : Int), .string SN, .int .i32 t.r, .bool t.sg] 40)
   obtain ⟨Wk, hWk⟩ : ∃ V, wr.alloc (.cells #[.int .i64 (t.kind : Int), .int .i64 (t.fr : Int), .int .i64 (t.to : Int), .string SN, .int .i32 t.r, .bool t.sg] 40) = V := ⟨_, rfl⟩
   rw [hWk] at tk bk ⊢
   clear hWk d0 d1 d2 d3 d4 d5 e1 e2 e3 e4 e5
   have hob := own_block_lt HR.out.2.1
   have hrs : w2.heap.size ≤ wr.heap.size := HR.out.1.z.size
   have hgg := HW2.out.2.2.2
   have hX : ¬ (wr.heap.size = gn ∨ wr.heap.size = gx ∨ u3.ownBlock = some wr.heap.size) := by
    rintro (e | e | e)
    ·omega
    ·omega
    ·have := (hob _ e).2
     omega
   have g0 : ∀ p : Later (fun q => q = gn ∨ q = gx ∨ u3.ownBlock = some q) Wk, p.W.cell? ⟨wr.heap.size, 0, none⟩ = some (.int .i64 (t.kind : Int)) := fun p => cell_later (tk.cell 0) hX p
   have g1 : ∀ p : Later (fun q => q = gn ∨ q = gx ∨ u3.ownBlock = some q) Wk, p.W.cell? ⟨wr.heap.size, 1, none⟩ = some (.int .i64 (t.fr : Int)) := fun p => cell_later (tk.cell 1) hX p
   have g2 : ∀ p : Later (fun q => q = gn ∨ q = gx ∨ u3.ownBlock = some q) Wk, p.W.cell? ⟨wr.heap.size, 2, none⟩ = some (.int .i64 (t.to : Int)) := fun p => cell_later (tk.cell 2) hX p
   have g3 : ∀ p : Later (fun q => q = gn ∨ q = gx ∨ u3.ownBlock = some q) Wk, p.W.cell? ⟨wr.heap.size, 3, none⟩ = some (.string SN) := fun p => cell_later (tk.cell 3) hX p
   have g4 : ∀ p : Later (fun q => q = gn ∨ q = gx ∨ u3.ownBlock = some q) Wk, p.W.cell? ⟨wr.heap.size, 4, none⟩ = some (.int .i32 t.r) := fun p => cell_later (tk.cell 4) hX p
   have g5 : ∀ p : Later (fun q => q = gn ∨ q = gx ∨ u3.ownBlock = some q) Wk, p.W.cell? ⟨wr.heap.size, 5, none⟩ = some (.bool t.sg) := fun p => cell_later (tk.cell 5) hX p
   have HZ := Lib.hid (And.intro bk (And.intro hob hrs))
   have hsl := HS.out
   clear tk bk hob hrs hgg hX
   refine wp_region_mixF (fun i => if 9 ≤ i then 2 else 0) [0, 1, 2, 3, 4, 5, 6, 7, 8] 3 (fun w' => ∃ p : Later (fun q => q = gn ∨ q = gx ∨ u3.ownBlock = some q) Wk, w' = p.W) (by kernel_rfl) (by kernel_rfl) ⟨⟨_, Fz.drew Wk⟩, rfl⟩ ?_
   simp only [opsAt, List.filterMap_cons, List.filterMap_nil, List.getElem?_toArray, List.getElem?_cons_zero, List.getElem?_cons_succ]
   change wpQuiet _ _ _ _ [_, _, _, _, _, _, _, _, _] _
   repeat (go_big_quiet_step (fail))
   refine wpQuiet_nil ?_
   clear g0 g1 g2 g3 g4 g5 hsl
   have z0 : Fz (fun q => q = gn ∨ q = gx) Wk { Wk with drawn := Wk.drawn + 1 } := Fz.drew Wk
   have bwk : Below gn w Wk := HR.out.2.2.2.2.2.2.1.trans (HZ.out.1.mono (Nat.le_trans HW2.out.2.1 HZ.out.2.2))
   have nk : NeAt Wk gn s.c := Cells.on HR.out.1.n HZ.out.1
   have xk : Cells Wk gx 63 (exA gn s.f s.x) := HR.out.1.x.on HZ.out.1
   have C1 := HK.out { Wk with drawn := Wk.drawn + 1 } nk xk ⟨bwk.os, bwk.tape, bwk.output, bwk.size, bwk.block⟩
   clear bwk nk xk
   refine wpFreeM_step [9] (by kernel_rfl) ⟨?_, trivial⟩
   refine wpOp_of_list rfl ?_
   go_wp2_with fail
   refine C1.mono ?_
   rintro e w6 ⟨v, rfl, ho6, hv6, hn6, hx6, hz6⟩
   have zk := z0.trans hz6
   have zr : Fz (fun q => q = gn ∨ q = gx) wr w6 := (Fz.of_below HZ.out.1).trans zk
   have own6 : OwnIt w6 w2.heap.size pre u3 := own_fz zr HR.out.2.1 (fun q hq e => by
    have h1 := (HZ.out.2.1 q e).1
    have h2 := HW2.out.2.2.2
    omega)
   have z26 : Fz (fun q => q = gn ∨ q = gx) w2 w6 := HR.out.1.z.trans zr
   have a6 : AW w2 gn gx s' w6 := ⟨HR.out.2.2.2.2.2.1, hn6, hx6, z26⟩
   have H6 := Lib.hid (And.intro own6 (And.intro a6 (And.intro ho6 (And.intro hv6 (zk.mono (Y := fun q => q = gn ∨ q = gx ∨ u3.ownBlock = some q) (fun q hq => hq.elim .inl (fun e => .inr (.inl e))))))))
   clear C1 z0 zk zr own6 z26 a6 ho6 hv6 hn6 hx6 hz6
   go_wp2_with fail
   refine ⟨⟨⟨_, H6.out.2.2.2.2⟩, rfl⟩, ?_⟩
   refine wpFreeM_step [10] (by kernel_rfl) ⟨?_, trivial⟩
   refine wpOp_of_list rfl ?_
   obtain ⟨i42, z42, hi42, _⟩ := info42_parts
   have HI := Lib.hid hi42
   clear hi42
   by_cases hne : its = []
   case pos =>
    obtain rfl := H6.out.2.2.2.1 hne
    have hend : ∃ (k' : Nat) (pre' : List IT) (s'' : ES) (e : Nat), k' ≤ n ∧ Value.int .i64 ((k : Int) + 1) = .int .i64 (k' : Int) ∧ OwnIt w6 w2.heap.size pre' u3 ∧ AW w2 gn gx s'' w6 ∧ pre' ++ allI (bF xs) s'' (L.drop k') = ALL ∧ tiles e (L.drop k') N ∧ pre'.length ≤ e := by
     refine ⟨k + 1, pre, s', t.to, by omega, by simp, H6.out.1, H6.out.2.1, ?_, HR.out.2.2.2.1, by have := HR.out.2.2.2.2.1; omega⟩
     have := HR.out.2.2.1
     rw [hne, List.nil_append] at this
     exact this
    have HEND := Lib.hid hend
    clear hend hne
    refine wpList_append_own_none rfl (.tmp 15) (.tmp 24) 24 rfl w2.heap.size 42 i42 7 Tryz.underlying24 HI.out u3 _ _ rfl H6.out.1 rfl ?_
    go_wp2_with fail
    refine ⟨⟨⟨_, H6.out.2.2.2.2⟩, rfl⟩, ?_⟩
    refine wpFreeM_step [11] (by kernel_rfl) ⟨?_, trivial⟩
    refine wpOp_of_list rfl ?_
    go_wp2_with fail
    refine ⟨⟨⟨_, H6.out.2.2.2.2⟩, rfl⟩, ?_⟩
    unfold wpFreeM
    go_wp2_with fail
    go_roundw
    case rel => exact HEND.out
    case measure => simp [RowKit.intOf]; omega
   case neg =>
    obtain ⟨A6, c6, rfl, hIs⟩ := IsA.of_own H6.out.2.2.1
    have hb6 : w2.heap.size ≤ w6.heap.size := H6.out.2.1.z.size
    have hl6 : pre.length + its.length ≤ 1000000 := by
     have h1 := HR.out.2.2.2.2.1
     have h2 := HR.out.2.2.2.2.2.2.2
     omega
    have HI6 := Lib.hid (And.intro hIs (And.intro hb6 (And.intro hl6 hne)))
    clear hIs hb6 hl6 hne
    refine (wpList_appIs rfl (.tmp 15) (.tmp 24) rfl w2.heap.size u3 pre its rfl H6.out.1 A6 c6 HI6.out.1 HI6.out.2.2.2 rfl HI6.out.2.2.1 HI6.out.2.1 ?_)
    intro g cp w7 o7 g7
    have z7 : Fz (fun q => u3.ownBlock = some q) w6 w7 := Fz.of_grown g7 (fun q e => e)
    have hend : ∃ (k' : Nat) (pre' : List IT) (s'' : ES) (e : Nat), k' ≤ n ∧ Value.int .i64 ((k : Int) + 1) = .int .i64 (k' : Int) ∧ OwnIt w7 w2.heap.size pre' (.slice (some ⟨g, 0, none⟩) (pre.length + its.length) cp) ∧ AW w2 gn gx s'' w7 ∧ pre' ++ allI (bF xs) s'' (L.drop k') = ALL ∧ tiles e (L.drop k') N ∧ pre'.length ≤ e := by
     have hgn : ¬ u3.ownBlock = some gn := fun e => by
      have h1 := (HZ.out.2.1 gn e).1
      have h2 := HW2.out.2.2.2
      omega
     have hgx : ¬ u3.ownBlock = some gx := fun e => by
      have h1 := (HZ.out.2.1 gx e).1
      have h2 := HW2.out.2.2.2
      omega
     have h6 := H6.out.2.1
     refine ⟨k + 1, pre ++ its, s', t.to, by omega, by simp, o7, ⟨h6.ok, z7.cellsK hgn h6.n, z7.cellsK hgx h6.x, ?_⟩, ?_, HR.out.2.2.2.1, by have := HR.out.2.2.2.2.1; simp; omega⟩
     ·refine ⟨z7.os.trans h6.z.os, z7.tape.trans h6.z.tape, z7.output.trans h6.z.output, Nat.le_trans h6.z.size z7.size, fun q hq hn => (z7.block q (Nat.lt_of_lt_of_le hq h6.z.size) (fun e => ?_)).trans (h6.z.block q hq hn)⟩
      have h1 := (HZ.out.2.1 q e).1
      omega
     ·rw [List.append_assoc]
      exact HR.out.2.2.1
    have HEND := Lib.hid hend
    have H7 := Lib.hid (H6.out.2.2.2.2.trans (z7.mono (Y := fun q => q = gn ∨ q = gx ∨ u3.ownBlock = some q) (fun q e => .inr (.inr e))))
    clear hend o7 g7 z7
    go_wp2_with fail
    refine ⟨⟨⟨_, H7.out⟩, rfl⟩, ?_⟩
    refine wpFreeM_step [11] (by kernel_rfl) ⟨?_, trivial⟩
    refine wpOp_of_list rfl ?_
    go_wp2_with fail
    refine ⟨⟨⟨_, H7.out⟩, rfl⟩, ?_⟩
    unfold wpFreeM
    go_wp2_with fail
    go_roundw
    case rel => exact HEND.out
    case measure => simp [RowKit.intOf]; omega
  case neg =>
   obtain rfl : k = n := by omega
   have i1 : ¬ (k : Int) < (k : Int) := by omega
   rw [show L.drop k = [] from List.drop_eq_nil_of_le (by rw [H2.out.2.2.2]; exact Nat.le_refl _)] at hall
   have hall : pre = ALL := by simpa [allI] using hall
   subst hall
   have H3 := Lib.hid (And.intro ho ha)
   clear ho ha htl hpe hkn hk
   go_wp2_with fail
   go_ret
   exact ⟨_, rfl, H3.out.1.lower HW2.out.2.1, HW2.out.1.trans (H3.out.2.z.below HW2.out.2.1 HW2.out.2.2.1)⟩
end Go.Proofs.YtojinnnpfjhifaaGreatDoor.K

namespace Go.Proofs.YtojinnnpfjhifaaGreatDoor.K
open Go.RowKit Go.Shelf Go.Lib Go.Maps
attribute [local irreducible] nmL ofN
def xw : List Nat := [97, 60, 98, 114, 62, 38, 108, 116, 59]
set_option maxRecDepth 100000 in
theorem xw0 : markT xw 0 = none := by kernel_rfl
set_option maxRecDepth 100000 in
theorem xw1 : markT xw 1 = some ⟨2, 1, 5, [98, 114], 0, false⟩ := by kernel_rfl
set_option maxRecDepth 100000 in
theorem xw5 : markT xw 5 = some ⟨1, 5, 9, [], 60, false⟩ := by kernel_rfl
def xw_l : List TK := [⟨0, 0, 1, [], 0, false⟩, ⟨2, 1, 5, [98, 114], 0, false⟩, ⟨1, 5, 9, [], 60, false⟩]
theorem xw_each : eachL xw = xw_l := by
 have h1 : rawT xw ⟨2, 1, 5, [98, 114], 0, false⟩ = 5 := by kernel_rfl
 have h2 : rawT xw ⟨1, 5, 9, [], 60, false⟩ = 9 := by kernel_rfl
 have m : marksL xw 0 = [⟨2, 1, 5, [98, 114], 0, false⟩, ⟨1, 5, 9, [], 60, false⟩] := by
  rw [marksL_none (by decide) xw0, marksL_some (by decide) xw1]
  unfold rawTok
  rw [h1, if_neg (by decide), marksL_some (by decide) xw5]
  unfold rawTok
  rw [h2, if_neg (by decide), marksL_end (by decide)]
  rfl
 unfold eachL
 rw [m]
 rfl
set_option maxRecDepth 100000 in
theorem xw_items : allI (bF xw) es0 xw_l = [⟨97, 0, 1, false, false, false, false⟩, ⟨60, 5, 4, true, false, false, false⟩] := by kernel_rfl
theorem by_lit (w : World) (l : List Nat) (fr : Nat × Nat) (hl : ∀ x ∈ l, x < 256) (hn : l.length ≤ 100) : BY (w.alloc (.cells (u8C l).toArray 5 fr)) (w.alloc (.cells (u8C l).toArray 5 fr)).heap.size l (some ⟨w.heap.size, 0, none⟩) l.length :=
 ⟨Nat.le_refl _, by unfold maxLen; omega, fun e => (by cases e), hl, fun _ => ⟨w.heap.size, 0, rfl, by simp, fun i x hx => by
  rw [Nat.zero_add, World.cell?_alloc_mark w _ _ _ _]
  simp [u8C, hx]⟩⟩
set_option maxHeartbeats 4000000 in
set_option maxRecDepth 100000 in
theorem xawake_any (w : World) (hM : G.MX w) (hT : S.Tabs w) : Calls Tryz.prog 7 #[] w fun r w' => r = .returned (.bool true) ∧ Below w.heap.size w w' := by
 obtain ⟨W1, hW1⟩ : ∃ W, w.alloc (.cells #[.int .u8 97, .int .u8 60, .int .u8 98, .int .u8 114, .int .u8 62, .int .u8 38, .int .u8 108, .int .u8 116, .int .u8 59] 5 (9, 10)) = W := ⟨_, rfl⟩
 have b1 : Below w.heap.size w W1 := by rw [← hW1]; exact below_new _ _
 have y1 : BY W1 W1.heap.size xw (some ⟨w.heap.size, 0, none⟩) 9 := by
  rw [← hW1]
  exact by_lit w xw (9, 10) (by decide) (by decide)
 have v1 : (convert 22 22 (.slice (some ⟨w.heap.size, 0, none⟩) 9 9)).run Tryz.prog (w.alloc (.cells #[.int .u8 97, .int .u8 60, .int .u8 98, .int .u8 114, .int .u8 62, .int .u8 38, .int .u8 108, .int .u8 116, .int .u8 59] 5)) = .ok (.slice (some ⟨w.heap.size, 0, none⟩) 9 9) W1 := by
  rw [← hW1]
  exact Lib.run_convert_bytes_const w 22 5 _ 9 9 Tryz.underlying22 Tryz.underlying5
 have CA := xall_any xw (some ⟨w.heap.size, 0, none⟩) 9 W1 y1 (by decide) (hM.on hM.pos b1) (hT.below b1 (by have := hT.2; omega))
 rw [xw_each, xw_items] at CA
 have HH := Lib.hid (And.intro CA b1)
 clear CA b1 y1 hW1 hM hT
 go_enter Tryz.func7, Tryz.ntmps7
 go_wp2_with fail
 refine HH.out.1.mono ?_
 rintro r w2 ⟨v, rfl, ho, hb2⟩
 have b2 := HH.out.2.trans (hb2.mono HH.out.2.size)
 obtain ⟨A2, c2, rfl, hI⟩ := IsA.of_own ho
 obtain ⟨b, o, rfl, _, h0⟩ := hI.r 0 _ rfl
 obtain ⟨b', o', e', _, h1⟩ := hI.r 1 _ rfl
 cases e'
 rw [show o = 0 from by
  rcases ho.2 with ⟨q, _⟩ | ⟨g, cap, cur, q, _⟩
  ·cases q
  ·cases q
   rfl] at h0 h1 ⊢
 simp only [Nat.zero_add, Nat.zero_mul, Nat.one_mul] at h0 h1
 have k0 : w2.cell? ⟨b, 0, none⟩ = some (.int .i32 97) := h0 0 _ rfl
 have k1 : w2.cell? ⟨b, 1, none⟩ = some (.int .i64 0) := h0 1 _ rfl
 have k2 : w2.cell? ⟨b, 2, none⟩ = some (.int .i64 1) := h0 2 _ rfl
 have k3 : w2.cell? ⟨b, 3, none⟩ = some (.bool false) := h0 3 _ rfl
 have k4 : w2.cell? ⟨b, 4, none⟩ = some (.bool false) := h0 4 _ rfl
 have k5 : w2.cell? ⟨b, 5, none⟩ = some (.bool false) := h0 5 _ rfl
 have k6 : w2.cell? ⟨b, 6, none⟩ = some (.bool false) := h0 6 _ rfl
 have k7 : w2.cell? ⟨b, 7, none⟩ = some (.int .i32 60) := h1 0 _ rfl
 have k8 : w2.cell? ⟨b, 8, none⟩ = some (.int .i64 5) := h1 1 _ rfl
 have k9 : w2.cell? ⟨b, 9, none⟩ = some (.int .i64 4) := h1 2 _ rfl
 have k10 : w2.cell? ⟨b, 10, none⟩ = some (.bool true) := h1 3 _ rfl
 have k11 : w2.cell? ⟨b, 11, none⟩ = some (.bool false) := h1 4 _ rfl
 have k12 : w2.cell? ⟨b, 12, none⟩ = some (.bool false) := h1 5 _ rfl
 have k13 : w2.cell? ⟨b, 13, none⟩ = some (.bool false) := h1 6 _ rfl
 have HB := Lib.hid b2
 have hc := hI.le
 have hcm := hI.mx
 clear ho hb2 b2 hI h0 h1
 rw [show ([(⟨97, 0, 1, false, false, false, false⟩ : IT), ⟨60, 5, 4, true, false, false, false⟩] : List IT).length = 2 from rfl] at hc ⊢
 go_wp2_with fail
 go_ret
 exact ⟨rfl, HB.out⟩
end Go.Proofs.YtojinnnpfjhifaaGreatDoor.K

namespace Go.Proofs.YtojinnnpfjhifaaGreatDoor
open Go.ChangeShapes Go.WideShapes Go.ChangeAt Go.RowKit Go.Shelf
open Go.Lib
theorem own : ownKnob Tryz.prog.godebug = none := by kernel_rfl
theorem laidOut : laidOutB Tryz.prog = true := by kernel_rfl
theorem cells5 : Tryz.prog.cellsOf 5 = 1 := by kernel_rfl
theorem getD_ofI {l : List Int} {i : Nat} {x : Int} (h : l[i]? = some x) : l.getD i 0 = x := by simp [List.getD_eq_getElem?_getD, h]
set_option maxRecDepth 100000 in
theorem by_of_arg {H : Type} {enc : TypeId × Value → H} {W : World} {b0 : Nat} {v : Value} {d : DataW H} {p : List MemPlace} (hv : Value.okWide Tryz.prog W .any b0 22 v) (h : DataW.Trod enc Tryz.prog W 0 (fun _ => true) true 22 v d p) :
  ∃ (xs : List Nat) (A : Option Addr) (cap : Nat), v = .slice A xs.length cap ∧ BY W W.heap.size xs A cap := by
 obtain ⟨a, len, cap, rfl⟩ := okWide_slice Tryz.underlying22 hv
 obtain ⟨fuel, hf⟩ := h
 rcases open_ints Tryz.underlying22 Tryz.underlying5 cells5 hf with ⟨hcs, _⟩ | ⟨x, l, c, zs, hcs, _, hl, hm, hz, _, hcell, hwz⟩
 ·simp [Value.cells] at hcs
  obtain ⟨rfl, rfl, rfl⟩ := hcs
  exact ⟨[], none, 0, rfl, ⟨Nat.le_refl _, Nat.zero_le _, fun _ => rfl, fun x hx => absurd hx (by simp), fun hn => absurd rfl hn⟩⟩
 ·simp [Value.cells] at hcs
  obtain ⟨rfl, rfl, rfl⟩ := hcs
  have hz : zs.length = cap := by simpa using hz
  have hb : ∀ z ∈ zs, 0 ≤ z ∧ z < 256 := fun z hzz => by
   have := hwz z hzz
   simp [Lit.wf, IntKind.min, IntKind.max, IntKind.signed, IntKind.bits] at this
   omega
  have hlen : ((zs.take len).map Int.toNat).length = len := by simp; omega
  refine ⟨(zs.take len).map Int.toNat, some x, cap, by rw [hlen], ⟨by rw [hlen]; exact hl, hm, fun e => (by cases e), fun y hy => ?_, fun hn => ?_⟩⟩
  ·obtain ⟨z, hz1, rfl⟩ := List.mem_map.1 hy
   have := hb z (List.mem_of_mem_take hz1)
   omega
  ·have h0 : 0 < len := by
    rcases Nat.eq_zero_or_pos len with e | e
    ·subst e; exact absurd rfl hn
    ·exact e
   have hc := hcell 0 (by omega)
   obtain ⟨b, off, spot⟩ := x
   have hspot : spot = none := by simpa [Addr.add] using World.cell?_spot hc
   subst hspot
   have hc0 : W.cell? ⟨b, off, none⟩ = some (.int .u8 (zs.getD 0 0)) := by simpa [Addr.add] using hc
   refine ⟨b, off, rfl, block_lt_of_cell hc0, fun i y hy => ?_⟩
   have hi : i < len := by have := (List.getElem?_eq_some_iff.1 hy).1; omega
   have hci := hcell i (by omega)
   rw [Addr.add_lit] at hci
   rw [List.getElem?_map, List.getElem?_take, if_pos hi] at hy
   cases e : zs[i]? with
   | none => rw [e] at hy; simp at hy
   | some z =>
    rw [e] at hy
    simp at hy
    have hzb := hb z (List.mem_of_getElem? e)
    rw [getD_ofI e] at hci
    rw [hci, ← hy]
    congr 2
    omega
theorem handed_laid {H : Type} {enc : TypeId × Value → H} {a : Assume} {C : Checked} {os : Os} {f : FuncId} {fn : Func} {s : ChangeSpec} {conds : List PathCond} {apart fresh handsOn again : Bool} {X : World → Array Value → Prop}
  (hX : ∀ (w w' : World) (args : Array Value), w.heap = w'.heap → X w args → X w' args)
  (own : ownKnob C.prog.godebug = none) (started : os.Started) (noInit : C.prog.inits.idxOf? f = none) (hfn : C.prog.funcs[f]? = some fn)
  (witness : ∃ (w : World) (tape : Tape) (i : Input), w.os = os ∧ (w.forCall tape i).Shaped C.prog ∧ i.vars = [] ∧ Input.okWide C.prog (w.forCall tape i) .any w.heap.size f i ∧
   ((s.pre enc C.prog fn conds apart (w.forCall tape i).memory i.args ∧ X (w.forCall tape i).memory i.args) ∧ sizedMet enc C.prog fn (OpenSpec.ofChange s) apart (w.forCall tape i).memory i.args) ∧ a.holds C.prog (lone (Frame.enter C.prog f i.args .normal) [] (w.forCall tape i)))
  (walk : ∀ (W : World) (base : Nat) (args : Array Value) (ds gs : List (DataW H)) (before : List MemPlace), W.ShapedOpen C.prog →
   (∀ (j : Nat) t v, fn.params[j]? = some t → args[j]? = some v → Value.okWide C.prog W .any base t v) →
   DataW.Whole enc C.prog fn.params.toList s.vars apart W args.toList ds gs before → X W args →
   (DataW.weightsEach C.prog (fn.params.toList ++ s.plain.varTypes C.prog) (ds ++ gs)).all (· ≤ reachBytes) = true →
   Calls C.prog f args W fun e W' => ∃ v, e = .returned v ∧ s.post enc C.prog fn apart fresh handsOn again W args v W') :
  ReturnsInHanded a C os f .any (fun w args => (s.pre enc C.prog fn conds apart w args ∧ X w args) ∧ sizedMet enc C.prog fn (OpenSpec.ofChange s) apart w args) (s.post enc C.prog fn apart fresh handsOn again) :=
 returnsInHanded_of_calls own started noInit witness fun w tape i _ hsh _ hok hpre _ => by
  obtain ⟨_, _, _, fn', hfn', _, _, _, _, hval⟩ := hok
  cases hfn.symm.trans hfn'
  obtain ⟨⟨⟨ds, gs, before, hw, _⟩, hx⟩, hz⟩ := hpre
  refine (walk (w.forCall tape i) w.heap.size i.args ds gs before hsh hval (DataW.Whole.of_heap (w' := w.forCall tape i) (by rfl) hw) (hX _ _ _ (by rfl) hx) (hz.weights hw)).mono ?_
  rintro e W' ⟨v, rfl, hp⟩
  exact ChangeSpec.post_blind hp
def laidAll7 : List (String × DataW Unit) := [("math/bits.deBruijn32tab", Rows.laid_math_bits_deBruijn32tab), ("math/bits.deBruijn64tab", Rows.laid_math_bits_deBruijn64tab), ("internal/strconv.uint64pow10", Rows.laid_internal_strconv_uint64pow10), ("unicode/utf8.acceptRanges", Rows.laid_unicode_utf8_acceptRanges), ("strconv.ErrRange", Rows.laid_strconv_ErrRange), ("strconv.ErrSyntax", Rows.laid_strconv_ErrSyntax), ("unicode/utf8.first", Rows.laid_unicode_utf8_first)]
theorem acc_eq : (Rows.laid_unicode_utf8_acceptRanges : DataW Unit) = acceptData := by kernel_rfl
theorem gFirst : Tryz.prog.globalNamed "unicode/utf8.first" = some 1 := by kernel_rfl
theorem gAccept : Tryz.prog.globalNamed "unicode/utf8.acceptRanges" = some 2 := by kernel_rfl
theorem yFirst : (Tryz.prog.globals[1]?).map (·.type) = some 160 := by kernel_rfl
theorem yAccept : (Tryz.prog.globals[2]?).map (·.type) = some 163 := by kernel_rfl
theorem cells159 : Tryz.prog.cellsOf 160 = 256 := by kernel_rfl
theorem cells161 : Tryz.prog.cellsOf 162 = 2 := by kernel_rfl
def bruijn64 : List Int := Lib.deBruijn64tab.map fun (n : Nat) => (n : Int)
theorem bruijn_eq : (Rows.laid_math_bits_deBruijn64tab : DataW Unit) = tabData .u8 bruijn64 := by kernel_rfl
theorem gBruijn : Tryz.prog.globalNamed "math/bits.deBruijn64tab" = some 7 := by kernel_rfl
theorem yBruijn : (Tryz.prog.globals[7]?).map (·.type) = some 220 := by kernel_rfl
theorem cells177 : Tryz.prog.cellsOf 220 = 64 := by kernel_rfl
theorem five_of_reads {w : World} (h : VarReads Tryz.prog w "math/bits.deBruijn64tab" Rows.laid_math_bits_deBruijn64tab) : 5 ≤ w.heap.size := by
 rw [bruijn_eq] at h
 obtain ⟨g, t, cs, fuel, p, hg, hty, hvar, hd⟩ := h
 obtain rfl := Option.some.inj (gBruijn.symm.trans hg)
 obtain rfl := Option.some.inj (yBruijn.symm.trans hty)
 have hcs := cells_of_tab Tryz.underlying220 Tryz.underlying5 cells5 cells177 hd
 have h1 := World.var?_cell hg hvar 15
 rw [← Array.getElem?_toList, hcs] at h1
 have h2 : w.cell? ⟨7, 15, none⟩ = some (.int .u8 4) := h1.trans rfl
 exact Nat.le_of_lt (Nat.lt_trans (show 5 < 7 by omega) (block_lt_of_cell h2))
theorem tabs_of_reads {w : World} (h3 : VarReads Tryz.prog w "unicode/utf8.first" Rows.laid_unicode_utf8_first) (h4 : VarReads Tryz.prog w "unicode/utf8.acceptRanges" Rows.laid_unicode_utf8_acceptRanges) (h5 : 5 ≤ w.heap.size) : S.Tabs w := by
 have e3 : Rows.laid_unicode_utf8_first = firstData := Pinned.utf8First_eq
 rw [e3] at h3
 rw [acc_eq] at h4
 have hU : Utf8Tabs 1 2 w := by
  refine ⟨fun c hc => ?_, fun i hi => ?_⟩
  ·obtain ⟨g, t, cs, fuel, p, hg, hty, hvar, hd⟩ := h3
   obtain rfl := Option.some.inj (gFirst.symm.trans hg)
   obtain rfl := Option.some.inj (yFirst.symm.trans hty)
   have hcs := cells_of_tab Tryz.underlying160 Tryz.underlying5 cells5 cells159 hd
   have := World.var?_cell hg hvar c
   rw [this, ← Array.getElem?_toList, hcs]
   simp [firstTab, hc]
  ·obtain ⟨g, t, cs, fuel, p, hg, hty, hvar, hd⟩ := h4
   obtain rfl := Option.some.inj (gAccept.symm.trans hg)
   obtain rfl := Option.some.inj (yAccept.symm.trans hty)
   obtain ⟨fuel', d, q, hdi, he⟩ := array_elem Tryz.underlying163 hd i hi
   simp only [List.getElem?_map, List.getElem?_range hi, Option.map_some, Option.some.injEq] at hdi
   subst hdi
   rw [cells161] at he
   have hcs := ints_of_struct Tryz.underlying162 (fun j f hj => by
    match j, hj with
    | 0, hj => simp at hj; subst hj; exact ⟨Tryz.underlying5, rfl, cells5⟩
    | 1, hj => simp at hj; subst hj; exact ⟨Tryz.underlying5, rfl, cells5⟩
    | j + 2, hj => simp at hj) (by rw [cells161]; rfl) he
   have e0 := congrArg (·[0]?) hcs
   have e1 := congrArg (·[1]?) hcs
   simp only [List.getElem?_take, List.getElem?_drop] at e0 e1
   constructor
   ·rw [World.var?_cell hg hvar (2 * i), ← Array.getElem?_toList]
    simpa [Nat.mul_comm] using e0
   ·rw [World.var?_cell hg hvar (2 * i + 1), ← Array.getElem?_toList]
    simpa [Nat.mul_comm] using e1
 exact ⟨hU, h5⟩
theorem mx_of_shape {w : World} (h : w.ShapedOpen Tryz.prog) : G.MX w := by
 obtain ⟨m, hm⟩ := cell_of_shapedOpen_int (g := 0) (t := 3) (zero := #[.int .i64 0]) (k := .i64) h (of_decide_eq_true (by kernel_rfl)) (by kernel_rfl) rfl (by kernel_rfl) (by kernel_rfl) Tryz.underlying3
 exact ⟨m, hm⟩
end Go.Proofs.YtojinnnpfjhifaaGreatDoor

namespace Go.Proofs.YtojinnnpfjhifaaGreatDoor
open Go.RowKit Go.Shelf Go.Lib Go.Maps Go.Great
attribute [local go_sem] Oper.semAt_some
attribute [local irreducible] NR ZNR FR nmE
end Go.Proofs.YtojinnnpfjhifaaGreatDoor

namespace Go.Proofs.YtojinnnpfjhifaaGreatDoor.K
open Go.RowKit Go.Shelf Go.Lib Go.Maps
attribute [local irreducible] nmL ofN
def rise : Int → List IT → Int → Prop
 | e, [], E => e ≤ E
 | e, x :: r, E => e ≤ x.at_ ∧ 1 ≤ x.sz ∧ rise (x.at_ + x.sz) r E
theorem rise_mono : ∀ (l : List IT) (e k E : Int), e ≤ k → rise k l E → rise e l E
 | [], _e, _k, _E, h, h2 => Int.le_trans h h2
 | _x :: _r, _e, _k, _E, h, h2 => ⟨Int.le_trans h h2.1, h2.2⟩
theorem rise_app : ∀ (l m : List IT) (e k E : Int), rise e l k → rise k m E → rise e (l ++ m) E
 | [], m, e, k, E, h, h2 => rise_mono m e k E h h2
 | _x :: r, m, _e, k, E, h, h2 => ⟨h.1, h.2.1, rise_app r m _ k E h.2.2 h2⟩
theorem rise_len : ∀ (l : List IT) (e E : Int), rise e l E → e + (l.length : Int) ≤ E
 | [], e, E, h => by
  have h : e ≤ E := h
  simpa using h
 | x :: r, e, E, h => by
  have := rise_len r _ E h.2.2
  have h1 := h.1
  have h2 := h.2.1
  simp only [List.length_cons]
  omega
def within (t : TK) (x : IT) : Prop := (t.fr : Int) ≤ x.at_ ∧ x.at_ < (t.to : Int) ∧ x.at_ + x.sz ≤ (t.to : Int) ∧ (t.kind = 0 ∨ (t.kind = 1 ∧ x.at_ = (t.fr : Int) ∧ x.at_ + x.sz = (t.to : Int)))
theorem text_rise (n : Nat) (f : Nat → Nat) (fr : Nat) (nb pb : Bool) : ∀ (d k : Nat) (fo x : Bool), k ≤ n → rise ((fr : Int) + (k : Int)) (textF n f fr nb pb d k fo x) ((fr : Int) + (n : Int))
 | 0, k, fo, x, h => by
  show (fr : Int) + (k : Int) ≤ _
  omega
 | d + 1, k, fo, x, h => by
  unfold textF
  by_cases hk : k < n
  ·have hs := nxS_size n f k hk
   rw [if_pos hk]
   refine ⟨Int.le_refl _, by show (1 : Int) ≤ ((nxS n f k).2.1 : Int); omega, ?_⟩
   have := text_rise n f fr nb pb d (k + (nxS n f k).2.1) false false (by omega)
   rw [Int.natCast_add, ← Int.add_assoc] at this
   exact this
  ·rw [if_neg hk]
   show (fr : Int) + (k : Int) ≤ _
   omega
theorem items_rise (s : ES) (B : Nat → Nat) (t : TK) (h : t.fr < t.to) : rise (t.fr : Int) (s.items B t) (t.to : Int) := by
 unfold ES.items tkI
 split
 ·show (t.fr : Int) ≤ _
  omega
 ·split
  ·have := text_rise (t.to - t.fr) (fun j => B (t.fr + j)) t.fr (decide (0 < (s.cs t).n)) (decide (0 < (s.cs t).p)) (t.to - t.fr) 0 (s.fs t) (s.xs t) (Nat.zero_le _)
   rw [show (t.fr : Int) + ((0 : Nat) : Int) = (t.fr : Int) by omega, show (t.fr : Int) + ((t.to - t.fr : Nat) : Int) = (t.to : Int) by omega] at this
   exact this
  ·split
   ·refine ⟨Int.le_refl _, by show (1 : Int) ≤ (t.to : Int) - (t.fr : Int); omega, ?_⟩
    show (t.fr : Int) + ((t.to : Int) - (t.fr : Int)) ≤ _
    omega
   ·show (t.fr : Int) ≤ _
    omega
theorem all_rise (B : Nat → Nat) : ∀ (l : List TK) (s : ES) (e E : Nat), tiles e l E → rise (e : Int) (allI B s l) (E : Int)
 | [], s, e, E, h => by
  simp [tiles] at h
  show (e : Int) ≤ _
  omega
 | t :: r, s, e, E, h => by
  have h1 := items_rise s B t (by rw [h.1]; exact h.2.1)
  rw [h.1] at h1
  exact rise_app _ _ _ _ _ h1 (all_rise B r (s.turn t) t.to E h.2.2)
end Go.Proofs.YtojinnnpfjhifaaGreatDoor.K

namespace Go.Proofs.YtojinnnpfjhifaaGreatDoor.K
open Go.RowKit Go.Shelf Go.Lib Go.Maps
attribute [local irreducible] nmL ofN
theorem putN_zb (r : Int) (j : Nat) : zb (encodeRuneZ r) j = (putN r).getD j 0 := by
 unfold zb putN
 rw [List.getD_eq_getElem?_getD, List.getD_eq_getElem?_getD, List.getElem?_map]
 cases (encodeRuneZ r)[j]? <;> rfl
def putL (l : List Int) : List Nat := l.flatMap putN
end Go.Proofs.YtojinnnpfjhifaaGreatDoor.K

namespace Go.Proofs.YtojinnnpfjhifaaGreatDoor.K
open Go.RowKit Go.Shelf Go.Lib Go.Maps
attribute [local irreducible] nmL ofN
theorem u8C_append (l m : List Nat) : u8C (l ++ m) = u8C l ++ u8C m := by simp [u8C]
theorem wpList_appBs {ops : Array Oper} {rest : List Oper} {o : Oper} {a : Act} {w : World} {Q : Exit → Act → World → Prop} (hgd : o.guard = none) (s x : Operand)
  (ho : o.op = .call { callee := .builtin .append, args := #[s, x], argTypes := #[22, 22] }) (base : Nat) (v : Value) (l ys : List Nat) (hs : a.eval s = v) (hown : OwnB w base l v) (A : Option Addr) (m cap : Nat) (hm : ys.length = m)
  (hx : a.eval x = .slice A m cap) (hB : BY w w.heap.size ys A cap) (h63 : l.length + m ≤ 1000000) (hbase : base ≤ w.heap.size)
  (h : ∀ v' w', OwnB w' base (l ++ ys) v' → Below base w w' → wpList Tryz.prog ops Q rest (a.put o.dst v') w') : wpList Tryz.prog ops Q (o :: rest) a w := by
 obtain ⟨i, hi, hz, hs1, hb1⟩ := info_parts info5
 subst hm
 cases A with
 | none =>
  have hc := hB.z rfl
  subst hc
  have hy : ys = [] := List.eq_nil_of_length_eq_zero (by have := hB.l; omega)
  subst hy
  refine wpList_append_own_none hgd s x 22 ho base 5 i 1 Tryz.underlying22 hi v l.length (u8C l) hs hown hx ?_
  exact h v w (by rw [List.append_nil]; exact hown) (Below.refl _ _)
 | some ad =>
  obtain ⟨v', w', hr, h2, h3, _, _⟩ := run_append_own_at (P := Tryz.prog) w base 22 o.type 5 i (.int .u8 0) 1 1 Tryz.underlying22 hi hz hs1 hb1 rfl (by decide) v l.length (u8C l) hown ad ys.length cap (u8C ys) (by simp [u8C]) (fun j u hj => by
   unfold u8C at hj
   rw [List.getElem?_map] at hj
   cases e : ys[j]? with
   | none => rw [e] at hj; simp at hj
   | some y =>
    rw [e] at hj
    simp at hj
    subst hj
    obtain ⟨b, o', e2, _, hc⟩ := hB.at e
    simp only [Option.some.injEq] at e2
    subst e2
    unfold Addr.add
    by_cases h0 : j = 0
    ·subst h0; simpa using hc
    ·simpa [h0] using hc) (fun u hu => by
   simp [u8C] at hu
   obtain ⟨y, _, rfl⟩ := hu
   rfl) (by unfold maxLen; omega) (by omega) hbase
  refine wpList_plain hgd fun K hK => ?_
  unfold Oper.wp
  simp only [execOp, ho, resolve, invoke, builtin, Sem.run_bind, Sem.run_pure, Result.andThen_ok, List.map_toArray, List.map_cons, List.map_nil, hs, hx, hr]
  refine hK _ _ (h v' w' ?_ (below_grown' h3 hown hbase))
  unfold OwnB
  rw [List.length_append, u8C_append]
  exact h2
set_option maxHeartbeats 2000000 in
theorem rput_any (r : Int) (h0 : -2147483648 ≤ r) (h1 : r ≤ 2147483647) (w : World) : Calls Tryz.prog 10 #[.int .i32 r] w (PutOk w r) := by
 have C := rr_any r w
 by_cases hv : Lib.validRune r = true
 ·obtain ⟨v0, v1, v2⟩ := (valid_iff r).1 hv
  rw [hv] at C
  have C := Lib.hid C
  by_cases c1 : r < 128
  ·have HP := Lib.hid (rput_post r [r] (encodeRuneZ_one v0 (by omega)) w)
   clear v2 hv
   go_enter Tryz.func10, Tryz.ntmps10
   go_wp2_with fail
   refine C.out.mono ?_
   rintro e w1 ⟨rfl, rfl⟩
   go_wp2
   go_ret
   exact HP.out
  ·have d1 : decide (r < 128) = false := by simpa using c1
   by_cases c2 : r < 2048
   ·have HP := Lib.hid (rput_post r _ (encodeRuneZ_two (by omega) (by omega)) w)
    clear v2 hv c1
    go_enter Tryz.func10, Tryz.ntmps10
    go_wp2_with fail
    refine C.out.mono ?_
    rintro e w1 ⟨rfl, rfl⟩
    go_wp2
    go_ret
    exact HP.out
   ·have d2 : decide (r < 2048) = false := by simpa using c2
    by_cases c3 : r < 65536
    ·have HP := Lib.hid (rput_post r _ (encodeRuneZ_three (by omega)) w)
     clear v2 hv c1 c2
     go_enter Tryz.func10, Tryz.ntmps10
     go_wp2_with fail
     refine C.out.mono ?_
     rintro e w1 ⟨rfl, rfl⟩
     go_wp2
     go_ret
     exact HP.out
    ·have d3 : decide (r < 65536) = false := by simpa using c3
     have HP := Lib.hid (rput_post r _ (encodeRuneZ_four (by omega) (by omega)) w)
     clear v2 hv c1 c2 c3
     go_enter Tryz.func10, Tryz.ntmps10
     go_wp2_with fail
     refine C.out.mono ?_
     rintro e w1 ⟨rfl, rfl⟩
     go_wp2
     go_ret
     exact HP.out
 ·have e : scR r = 65533 := if_neg hv
  have hz : encodeRuneZ r = [239, 191, 189] := by rw [encZ_scR, e]; decide
  have HP := Lib.hid (rput_post r _ hz w)
  rw [Bool.eq_false_iff.2 hv] at C
  have C := Lib.hid C
  clear hv e hz
  go_enter Tryz.func10, Tryz.ntmps10
  go_wp2_with fail
  refine C.out.mono ?_
  rintro e w1 ⟨rfl, rfl⟩
  go_wp2
  go_ret
  exact HP.out
theorem enc_nat (r : Int) (j : Nat) (hj : j < (encodeRune r).length) : (putN r)[j]? = some ((encodeRune r)[j].toNat) := by
 have h1 := enc_f r j
 rw [putN_zb] at h1
 rw [List.getD_eq_getElem?_getD, List.getD_eq_getElem?_getD, List.getElem?_eq_getElem hj] at h1
 have hl : (putN r).length = (encodeRune r).length := by rw [enc_len2]; unfold putN; rw [List.length_map]
 rw [List.getElem?_eq_getElem (by omega)] at h1 ⊢
 simp at h1
 rw [h1]
theorem sput_any (r : Int) (h0 : -2147483648 ≤ r) (h1 : r ≤ 2147483647) (w : World) : Calls Tryz.prog 21 #[.int .i32 r] w (PutOk w r) := by
 refine (S.put_any r h0 h1 w).mono ?_
 rintro e w' ⟨g, cap, rfl, hc, hle, hm, hg, hb⟩
 have hl : (putN r).length = (encodeRune r).length := by rw [enc_len2]; unfold putN; rw [List.length_map]
 refine ⟨some ⟨g, 0, none⟩, cap, by rw [hl], ⟨by rw [hl]; exact hle, hm, fun e => (by cases e), putN_lt r, fun _ => ⟨g, 0, rfl, hg, fun i x hx => ?_⟩⟩, hb⟩
 have hi : i < (encodeRune r).length := by
  have := (List.getElem?_eq_some_iff.1 hx).1
  omega
 rw [enc_nat r i hi] at hx
 cases hx
 rw [Nat.zero_add]
 exact hc i hi
end Go.Proofs.YtojinnnpfjhifaaGreatDoor.K

namespace Go.Proofs.YtojinnnpfjhifaaGreatDoor.K
open Go.RowKit Go.Shelf Go.Lib Go.Maps
attribute [local irreducible] nmL ofN
theorem AW.on {w2 : World} {gn gx : Nat} {s : ES} {W W' : World} (h : AW w2 gn gx s W) (hb : Below W.heap.size W W') : AW w2 gn gx s W' := ⟨h.ok, Cells.on h.n hb, h.x.on hb, h.z.trans (Fz.of_below hb)⟩
theorem isA_cells {w : World} {B : Nat} {l : List IT} {A : Option Addr} {c : Nat} (h : IsA w B l A c) {i : Nat} {x : IT} (hx : l[i]? = some x) : ∃ b o, A = some ⟨b, o, none⟩ ∧ b < B ∧
  w.cell? ⟨b, o + i * 7, none⟩ = some (.int .i32 x.r) ∧ w.cell? ⟨b, o + i * 7 + 1, none⟩ = some (.int .i64 x.at_) ∧ w.cell? ⟨b, o + i * 7 + 2, none⟩ = some (.int .i64 x.sz) ∧ w.cell? ⟨b, o + i * 7 + 3, none⟩ = some (.bool x.f) ∧
  w.cell? ⟨b, o + i * 7 + 4, none⟩ = some (.bool x.x) ∧ w.cell? ⟨b, o + i * 7 + 5, none⟩ = some (.bool x.n) ∧ w.cell? ⟨b, o + i * 7 + 6, none⟩ = some (.bool x.p) := by
 obtain ⟨b, o, e, h1, h2⟩ := h.r i x hx
 simp only [← Nat.add_assoc] at h2
 exact ⟨b, o, e, h1, h2 0 _ rfl, h2 1 _ rfl, h2 2 _ rfl, h2 3 _ rfl, h2 4 _ rfl, h2 5 _ rfl, h2 6 _ rfl⟩
end Go.Proofs.YtojinnnpfjhifaaGreatDoor.K

