/-
  What the rows of flat lean on, part n.
-/
import Derived.Test.YtfafhbgkmlmmdaaGreatDoorYqm
import Derived.Deep.AppendLies
import Derived.Test.YtfafhbgkmlmmdaaGreatDoorYqd
import Derived.Deep.CutRange
import Derived.Laws.AppendOwnNone
import Derived.Lib.SmallJoins
import Derived.Test.YtfafhbgkmlmmdaaGreatDoorYqi
set_option maxRecDepth 100000
set_option maxHeartbeats 40000000
namespace Go.Proofs.YtfafhbgkmlmmdaaGreatDoor
open Go.RowKit Go.Shelf Go.Lib Go.Maps Go.Great
attribute [local go_sem] Oper.semAt_some
attribute [local irreducible] NR ZNR FR nmE
def tiles : Nat → List TK → Nat → Prop
 | e, [], E => e = E
 | e, t :: r, E => t.fr = e ∧ e < t.to ∧ tiles t.to r E
theorem tiles_len : ∀ (l : List TK) (e E : Nat), tiles e l E → e + l.length ≤ E
 | [], e, E, h => by simp [tiles] at h; simp [h]
 | t :: r, e, E, h => by
  have := tiles_len r t.to E h.2.2
  have := h.2.1
  simp only [List.length_cons]
  omega
theorem tiles_txs {a b : Nat} (h : a ≤ b) {l : List TK} {E : Nat} (hl : tiles b l E) : tiles a (txs a b ++ l) E := by
 unfold txs
 split
 ·rename_i h1
  exact ⟨rfl, h1, hl⟩
 ·obtain rfl : a = b := by omega
  exact hl
theorem tiles_out {xs : List Nat} : ∀ (d k e : Nat), xs.length - k = d → e ≤ k → k ≤ xs.length → tiles e (outF e (marksL xs k) ++ txs (endF e (marksL xs k)) xs.length) xs.length := by
 intro d
 induction d using Nat.strongRecOn with
 | _ d ih =>
  intro k e hd he hk
  by_cases h : k < xs.length
  case neg =>
   rw [marksL_end h]
   show tiles e (txs e xs.length) xs.length
   have := tiles_txs (a := e) (b := xs.length) (by omega) (l := []) (E := xs.length) rfl
   rw [List.append_nil] at this
   exact this
  case pos =>
   cases hm : markT xs k with
   | none =>
    rw [marksL_none h hm]
    exact ih (xs.length - (k + 1)) (by omega) (k + 1) e rfl (by omega) (by omega)
   | some t =>
    rw [marksL_some h hm]
    have h1 := mark_to (by omega) hm
    have h2 := rawT_le (xs := xs) (x := t) h1.2.2.1
    show tiles e ((txs e t.fr ++ (t :: outF t.to (rawTok xs t ++ marksL xs (rawT xs t)))) ++ txs (endF t.to (rawTok xs t ++ marksL xs (rawT xs t))) xs.length) xs.length
    rw [List.append_assoc, h1.1]
    refine tiles_txs he ⟨h1.1, h1.2.1, ?_⟩
    show tiles t.to (outF t.to (rawTok xs t ++ marksL xs (rawT xs t)) ++ txs (endF t.to (rawTok xs t ++ marksL xs (rawT xs t))) xs.length) xs.length
    by_cases hr : t.to < rawT xs t
    ·have e1 : rawTok xs t = [⟨7, t.to, rawT xs t, [], 0, false⟩] := by unfold rawTok; rw [if_pos hr]
     rw [e1]
     have := ih (xs.length - rawT xs t) (by omega) (rawT xs t) (rawT xs t) rfl (Nat.le_refl _) h2.2
     have e2 : txs t.to t.to = [] := by unfold txs; rw [if_neg (Nat.lt_irrefl _)]
     show tiles t.to ((txs t.to t.to ++ (⟨7, t.to, rawT xs t, [], 0, false⟩ :: outF (rawT xs t) (marksL xs (rawT xs t)))) ++ txs (endF (rawT xs t) (marksL xs (rawT xs t))) xs.length) xs.length
     rw [e2]
     exact ⟨rfl, hr, this⟩
    ·have e1 : rawTok xs t = [] := by unfold rawTok; rw [if_neg hr]
     rw [e1]
     exact ih (xs.length - rawT xs t) (by omega) (rawT xs t) t.to rfl (by omega) h2.2
theorem eachL_tiles (xs : List Nat) : tiles 0 (eachL xs) xs.length := tiles_out (xs := xs) _ 0 0 rfl (Nat.le_refl _) (Nat.zero_le _)
theorem eachL_len (xs : List Nat) : (eachL xs).length ≤ xs.length := by
 have := tiles_len _ _ _ (eachL_tiles xs)
 omega
def rowC : List TK → List Value
 | [] => []
 | x :: r => (tokC x).toList ++ rowC r
theorem rowC_snoc (x : TK) : ∀ l : List TK, rowC (l ++ [x]) = rowC l ++ (tokC x).toList
 | [] => by simp [rowC]
 | t :: r => by
  show (tokC t).toList ++ rowC (r ++ [x]) = ((tokC t).toList ++ rowC r) ++ _
  rw [rowC_snoc x r]
  simp
def OwnT (w : World) (base : Nat) (l : List TK) (v : Value) : Prop := w.ownsRow base 35 6 v l.length (rowC l)
theorem OwnT.below {w w' : World} {base : Nat} {l : List TK} {v : Value} (h : OwnT w base l v) (hb : Below w.heap.size w w') : OwnT w' base l v := ownsRow_below h hb
theorem info30 : (Tryz.prog.info? 35).map (fun i => (i.zero.map (fun z => z.cells.size), i.size, i.bytes)) = some (some 6, 6, 48) := by kernel_rfl
theorem info30_parts : ∃ i z, Tryz.prog.info? 35 = some i ∧ i.zero = some z ∧ i.size = 6 ∧ i.bytes = 48 ∧ z.cells.size = 6 := by
 have h := info30
 cases e : Tryz.prog.info? 35 with
 | none => rw [e] at h; simp at h
 | some i =>
  rw [e] at h
  cases e2 : i.zero with
  | none => simp [e2] at h
  | some z =>
   simp [e2] at h
   exact ⟨i, z, rfl, e2, h.2.1, h.2.2, h.1⟩
theorem wpListIn_append_lies {F : Fence} {n' : Nat} {P : Program} {w : World} {ops : Array Oper} {rest : List Oper} {o : Oper} {a : Act} {Q : Exit → Act → World → Prop} (hgd : o.guard = none) (s x : Operand) (t : TypeId)
  (ho : o.op = .call { callee := .builtin .append, args := #[s, x], argTypes := #[t, t] })
  (base : Nat) (e : TypeId) (i : TypeInfo) (z : Value) (size bytes : Nat) (ht : P.underlying t = some (.slice e)) (hi : P.info? e = some i) (hz : i.zero = some z)
  (hsize : i.size = size) (hby : i.bytes = bytes) (hzs : z.cells.size = size) (hsz : 0 < size)
  (v : Value) (n : Nat) (xs : List Value) (hs : a.eval s = v) (hown : w.ownsRow base e size v n xs)
  (ad : Addr) (m c : Nat) (news : List Value) (hx : a.eval x = .slice (some ad) m c) (hl : news.length = m * size) (hnews : ∀ j u, news[j]? = some u → w.cell? (ad.add j) = some u) (h1 : ∀ u ∈ news, u.oneCell' = true)
  (hm : 0 < m) (h63 : n + m ≤ maxLen) (hbytes : (n + m) * bytes ≤ 140737488355328) (hbase : base ≤ w.heap.size) (H : Nat) (hH : w.heap.size = H)
  (h : ∀ g cap w', w'.ownsRow base e size (.slice (some ⟨g, 0, none⟩) (n + m) cap) (n + m) (xs ++ news) → w.grownBy w' v.ownBlock → (v.ownBlock = some g ∨ g = H) → g < w'.heap.size → wpListIn F n' P ops Q rest (a.put o.dst (.slice (some ⟨g, 0, none⟩) (n + m) cap)) w') :
  wpListIn F n' P ops Q (o :: rest) a w := by
 refine wpListIn_plain hgd fun K hK' => ?_
 obtain ⟨g, cap, w', hr, h2, h3, h4, h5⟩ := run_append_lies (P := P) w t o.type base e i z size bytes ht hi hz hsize hby hzs hsz v n xs hown ad m c news hl hnews h1 hm h63 hbytes hbase H hH
 unfold Oper.wpIn
 refine ⟨?_, ?_⟩
 ·simp [Oper.about, ho, resolve, Target.leads, Sem.run_pure]
 ·rw [Oper.semAt_plain F _ _ (by rw [ho]; intro c hc'; cases hc')]
  simp [execOp, ho, resolve, invoke, builtin, hs, hx, hr, Result.andThen]
  exact hK' _ _ (h g cap w' h2 h3 h4 h5)
theorem ownsRow_same {w w' : World} {B e z n : Nat} {v : Value} {xs : List Value} (h : w.ownsRow B e z v n xs) (hk : ∀ k, v.ownBlock = some k → w'.heap[k]? = w.heap[k]?) : w'.ownsRow B e z v n xs := by
 refine ⟨h.1, ?_⟩
 rcases h.2 with h2 | ⟨g, cap, cur, rfl, hb, hh, h5, h6, h7, h8⟩
 ·exact .inl h2
 ·exact .inr ⟨g, cap, cur, rfl, hb, (hk g rfl).trans hh, h5, h6, h7, h8⟩
theorem Fr.grown {X : Nat → Prop} {ob : Option Nat} {g : Nat} {W W' : World} (h : W.grownBy W' ob) (h' : ob = some g ∨ g = W.heap.size) (hlt : g < W'.heap.size) : Fr X ob (some g) W W' :=
 ⟨h.os, h.tape, h.output, h.size, fun k hk _ ho => h.block k hk (fun e => ho e.symm), by
  rcases h' with e | e
  ·exact .inl e.symm
  ·exact .inr ⟨g, rfl, by omega, hlt⟩⟩
theorem All_any (xs : List Nat) (A : Option Addr) (cap : Nat) (w : World) (hx : BY w w.heap.size xs A cap) (hl : xs.length ≤ 100000) (hM : G.MX w) (hT : S.Tabs w) :
  Calls Tryz.prog 23 #[.slice A xs.length cap] w fun e w' => ∃ v, e = .returned v ∧ OwnT w' w.heap.size (eachL xs) v ∧ Below w.heap.size w w' := by
 refine (callsIn_wide (n := 10)).1 ?_
 obtain ⟨W1, hW1⟩ : ∃ V, w.alloc (.cells #[.slice none 0 0] 28) = V := ⟨_, rfl⟩
 have b1 : Below w.heap.size w W1 := by rw [← hW1]; exact below_new w _
 have s1 : W1.heap.size = w.heap.size + 1 := by rw [← hW1]; simp
 have o1 : Cells W1 w.heap.size 28 #[.slice none 0 0] := by rw [← hW1]; exact cells_new _ _ _
 obtain ⟨W2, hW2⟩ : ∃ V, W1.alloc (.cells #[.slice A xs.length cap] 22) = V := ⟨_, rfl⟩
 have b12 : Below W1.heap.size W1 W2 := by rw [← hW2]; exact below_new W1 _
 have s2 : W2.heap.size = w.heap.size + 2 := by rw [← hW2]; simp [s1]
 have c2 : Cells W2 (w.heap.size + 1) 22 #[.slice A xs.length cap] := by rw [← s1, ← hW2]; exact cells_new _ _ _
 have o2 := o1.on b12
 have b2 : Below w.heap.size w W2 := b1.trans (b12.mono (by omega))
 have HE := each_hands 8 (by omega) xs A cap (w.heap.size + 1) w.heap.size (fun k => k = w.heap.size) W2 (hx.below b2) hl (hM.on (B := w.heap.size) hM.pos b2) (hT.below b2 (by have := hT.2; omega)) (by have := hT.2; omega) c2 (by omega) (fun k hk => by omega)
 have hcl := hx.l
 have hlen := eachL_len xs
 obtain ⟨N, hN⟩ : ∃ N, xs.length = N := ⟨_, rfl⟩
 rw [hN] at hl hlen hcl
 rw [hN] at hW2 c2
 rw [hN]
 obtain ⟨L, hL⟩ : ∃ L, eachL xs = L := ⟨_, rfl⟩
 rw [hL] at HE hlen
 rw [hL]
 have fa := o1.froz 0
 have q1 := o1.cell 0
 have q2 := o2.cell 0
 simp at q1 q2
 refine callsIn_of_wp_marks Tryz.func23 rfl trivial ?_ rfl
 simp only [Tryz.ntmps23, List.size_toArray, List.length_cons, List.length_nil, Nat.reduceAdd, Nat.reduceSub, Array.replicate_succ, Array.replicate_zero, List.push_toArray, List.append_toArray, List.nil_append, List.cons_append]
 gi_wp2_with (fail)
 refine ⟨trivial, ?_⟩
 gi_at_call 51
 refine (callsIn_wide.2 (each_any A N cap W1)).mono ?_
 rintro e _ ⟨rfl, rfl⟩
 rw [hW2]
 obtain ⟨I, hI⟩ : ∃ I : List TK → Option Nat → World → Prop, I = fun pre ob V => ∃ v, Cells V w.heap.size 28 #[v] ∧ V.ownsRow (w.heap.size + 4) 35 6 v pre.length (rowC pre) ∧ v.ownBlock = ob := ⟨_, rfl⟩
 have sI : Stab W2.heap.size I := fun pre ob V V' hv h1 h2 h3 h4 h5 => by
  rw [hI] at hv ⊢
  obtain ⟨v, v1, v2, v3⟩ := hv
  exact ⟨v, (h5 _ v1.lt (.inl (by omega))).trans v1, ownsRow_same v2 (fun k hk => h5 k (own_block_lt v2 k hk).2 (.inr (v3.symm.trans hk))), v3⟩
 have oI : ObIn (W2.heap.size + 2) I := fun pre k V hv => by
  rw [hI] at hv
  obtain ⟨v, v1, v2, v3⟩ := hv
  have := own_block_lt v2 k v3
  omega
 have hi0 : I [] none W2 := by
  rw [hI]
  exact ⟨_, o2, ⟨rfl, .inl ⟨rfl, rfl⟩⟩, rfl⟩
 gi_wp2_with (fail)
 refine wpIn_handsT (X := fun k => k = w.heap.size) (xs := L) (by omega) (gf := 80) (lb := #[.pointer (some ⟨w.heap.size + 1, 0, none⟩)]) rfl (enters_of Tryz.func80 (by kernel_rfl) rfl) (HE.anyN _) (fun k hk => by omega) rfl I (fun _ _ _ => False) sI (fun _ _ _ _ h => h.elim) oI (fun _ _ _ h => h.elim) hi0
  (fun x p => { tmps := #[.slice A N cap, undef, .slice none 0 0, .pointer (some ⟨w.heap.size, 0, none⟩), .pointer (some ⟨p, 0, none⟩), .slice A N cap, .func (.func 80) #[] #[.pointer (some ⟨w.heap.size + 1, 0, none⟩)], tokV x, undef, undef, undef, undef, undef], defers := [] }) ?assign ?body ?done ?stop
 case assign =>
  intro l1 x V K hK
  unfold tokV tokC
  unfold tokV tokC at hK
  gi_wp2_with (fail)
  exact hK
 case body =>
  intro l1 pre ob x p V hi hpre xV hp hob
  rw [hI] at hi
  obtain ⟨v, o4, r4, hv⟩ := hi
  have hVp := xV.lt
  have htc : (tokC x) = #[.int .i64 (x.kind : Int), .int .i64 (x.fr : Int), .int .i64 (x.to : Int), .string ⟨(G.u8s x.name).toArray⟩, .int .i32 x.r, .bool x.sg] := rfl
  obtain ⟨tv, htv⟩ : ∃ v, tokV x = v := ⟨_, rfl⟩
  have hrs := rowC_snoc x pre
  rw [htc] at xV hrs
  have hpl : pre.length < N := by
   have := hpre.length_le
   simp only [List.length_append, List.length_singleton] at this
   omega
  obtain ⟨SN, hSN⟩ : ∃ Sx : ByteArray, ⟨(G.u8s x.name).toArray⟩ = Sx := ⟨_, rfl⟩
  obtain ⟨kd, hkd⟩ : ∃ n, x.kind = n := ⟨_, rfl⟩
  obtain ⟨sg, hsg⟩ : ∃ n, x.sg = n := ⟨_, rfl⟩
  obtain ⟨fr, hfr⟩ : ∃ n, x.fr = n := ⟨_, rfl⟩
  obtain ⟨te, hte⟩ : ∃ n, x.to = n := ⟨_, rfl⟩
  obtain ⟨rr, hrr⟩ : ∃ n, x.r = n := ⟨_, rfl⟩
  rw [hSN, hkd, hsg, hfr, hte, hrr] at xV hrs
  rw [htv]
  have q0 := xV.cell 0
  have q1 := xV.cell 1
  have q2 := xV.cell 2
  have q3 := xV.cell 3
  have q4 := xV.cell 4
  have q5 := xV.cell 5
  have q6 := o4.cell 0
  simp at q0 q1 q2 q3 q4 q5 q6
  obtain ⟨V1, hV1⟩ : ∃ Z, V.alloc (.cells #[.int .i64 (kd : Int), .int .i64 (fr : Int), .int .i64 (te : Int), .string SN, .int .i32 rr, .bool sg] 35) = Z := ⟨_, rfl⟩
  have bV : Below V.heap.size V V1 := by rw [← hV1]; exact below_new V _
  have nV : ∀ (j : Nat) u, ([.int .i64 (kd : Int), .int .i64 (fr : Int), .int .i64 (te : Int), .string SN, .int .i32 rr, .bool sg] : List Value)[j]? = some u → V1.cell? ((⟨V.heap.size, 0, none⟩ : Addr).add j) = some u := by
   rw [← hV1]
   exact World.news_of_block (heap_alloc_new V _)
  have hone : ∀ u ∈ ([.int .i64 (kd : Int), .int .i64 (fr : Int), .int .i64 (te : Int), .string SN, .int .i32 rr, .bool sg] : List Value), u.oneCell' = true := fun u hu => by
   simp at hu
   rcases hu with rfl | rfl | rfl | rfl | rfl | rfl <;> rfl
  have r5 : V1.ownsRow (w.heap.size + 4) 35 6 v pre.length (rowC pre) := ownsRow_below r4 bV
  have hs1 : w.heap.size + 4 ≤ V1.heap.size := by have := bV.size; omega
  obtain ⟨ti, tz, t1, t2, t3, t4, t5⟩ := info30_parts
  have hK : ∀ g cp V2, V2.ownsRow (w.heap.size + 4) 35 6 (.slice (some ⟨g, 0, none⟩) (pre.length + 1) cp) (pre.length + 1) (rowC pre ++ [.int .i64 (kd : Int), .int .i64 (fr : Int), .int .i64 (te : Int), .string SN, .int .i32 rr, .bool sg]) → V1.grownBy V2 v.ownBlock → (v.ownBlock = some g ∨ g = V1.heap.size) → g < V2.heap.size →
    V2.cell? ⟨w.heap.size, 0, none⟩ = some v ∧ V2.frozen? ⟨w.heap.size, 0, none⟩ = false ∧ roundLeftT (fun k => k = w.heap.size) I (fun _ _ _ => False) (pre ++ [x]) ob V .normal { tmps := #[], defers := [] } (V2.setCell ⟨w.heap.size, 0, none⟩ (.slice (some ⟨g, 0, none⟩) (pre.length + 1) cp)) := by
   intro g cp V2 k1 k2 k3 k4
   have o5 : Cells V2 w.heap.size 28 #[v] := (k2.block _ (by have := o4.lt; have := bV.size; omega) (fun e => by have := (own_block_lt r4 _ e.symm).1; omega)).trans (o4.on bV)
   refine ⟨by simpa using o5.cell 0, o5.froz 0, some g, ?_, ?_⟩
   ·rw [hI]
    refine ⟨_, o5.set 0 _, ?_, rfl⟩
    rw [hrs, List.length_append]
    refine ownsRow_same k1 (fun k hk => Below.heap_setCell _ _ _ _ (fun e => ?_))
    have := (own_block_lt k1 k hk).1
    simp at e
    omega
   ·rw [← hv]
    exact ((Fr.of_below bV).trans (Fr.grown k2 k3 k4)).trans (Fr.setc _ _ _ _ rfl)
  have HU := Lib.hid (And.intro hK (And.intro r5 (And.intro nV (And.intro hone hs1))))
  clear hK r5 nV hone hs1 r4 o4 hI sI oI hi0 HE hpre hv hrs htc htv hob hx hM hT hSN hkd hsg hfr hte hrr
  gi_wp2_with (gi_at_builtin; refine wpListIn_append_lies rfl _ _ 28 rfl (w.heap.size + 4) 35 ti tz 6 48 (by kernel_rfl) t1 t2 t3 t4 t5 (by decide) v pre.length (rowC pre) rfl HU.out.2.1 ⟨V.heap.size, 0, none⟩ 1 1 _ rfl rfl HU.out.2.2.1 HU.out.2.2.2.1 (by decide) (by unfold maxLen; omega) (by omega) HU.out.2.2.2.2 _ rfl ?_; intro g cp V2 k1 k2 k3 k4; obtain ⟨z1, z2, z3⟩ := HU.out.1 g cp V2 k1 k2 k3 k4; clear k1 k2 k3 k4; replace z3 := Lib.hid z3)
  exact z3.out
 case done =>
  intro D ob V hD hv hf hKD
  obtain rfl : D = w.heap.size + 2 := by omega
  rw [hI] at hv
  obtain ⟨v, o4, r4, hv⟩ := hv
  have q3 := o4.cell 0
  simp at q3
  have bV : Below w.heap.size w V := b2.trans (hf.below (B := w.heap.size) (by omega) (fun k hk => by omega) (by simp))
  have HF := Lib.hid (And.intro r4 bV)
  clear hI sI oI hi0 HE r4 bV hv hf o4 hx hM hT
  dsimp only
  gi_wp2_with (fail)
  refine ⟨by simp, .inl ⟨_, _, rfl, run_takeDeferred hKD, ?_⟩⟩
  refine ⟨_, results_tmp rfl _ _ _, v, rfl, ?_, ?_⟩
  ·refine G.ownsRow_base (B := w.heap.size + 4) ?_ (by omega)
   exact ownsRow_same HF.out.1 (fun k hk => World.putObj_heap_other (by have := (own_block_lt HF.out.1 k hk).1; omega))
  ·exact ⟨HF.out.2.os, HF.out.2.tape, HF.out.2.output, by simpa [World.putObj] using HF.out.2.size, fun k hk => (World.putObj_heap_other (by omega)).trans (HF.out.2.block k hk)⟩
 case stop =>
  intro D ob pre V hD hpre hv hf hKD
  exact hv.elim
end Go.Proofs.YtfafhbgkmlmmdaaGreatDoor
namespace Go.Proofs.YtfafhbgkmlmmdaaGreatDoor
open Go.RowKit Go.Shelf Go.Lib Go.Maps Go.Great
attribute [local irreducible] NR ZNR FR nmE
structure TS (w : World) (B : Nat) (l : List TK) (A : Option Addr) (c : Nat) : Prop where
 le : l.length ≤ c
 mx : c ≤ maxLen
 r : ∀ (i : Nat) (x : TK), l[i]? = some x → ∃ b o, A = some ⟨b, o, none⟩ ∧ b < B ∧ w.cell? ⟨b, o + i * 6, none⟩ = some (.int .i64 (x.kind : Int)) ∧ w.cell? ⟨b, o + (i * 6 + 1), none⟩ = some (.int .i64 (x.fr : Int)) ∧
  w.cell? ⟨b, o + (i * 6 + 2), none⟩ = some (.int .i64 (x.to : Int)) ∧ w.cell? ⟨b, o + (i * 6 + 3), none⟩ = some (.string ⟨(G.u8s x.name).toArray⟩) ∧ w.cell? ⟨b, o + (i * 6 + 4), none⟩ = some (.int .i32 x.r) ∧ w.cell? ⟨b, o + (i * 6 + 5), none⟩ = some (.bool x.sg)
theorem TS.below {w w' : World} {B : Nat} {l : List TK} {A : Option Addr} {c : Nat} (h : TS w B l A c) (hb : Below B w w') : TS w' B l A c :=
 ⟨h.le, h.mx, fun i a ha => by
  obtain ⟨b, o, e, h1, h2, h3, h4, h5, h6, h7⟩ := h.r i a ha
  exact ⟨b, o, e, h1, (hb.cell (p := ⟨b, _, none⟩) h1).trans h2, (hb.cell (p := ⟨b, _, none⟩) h1).trans h3, (hb.cell (p := ⟨b, _, none⟩) h1).trans h4, (hb.cell (p := ⟨b, _, none⟩) h1).trans h5, (hb.cell (p := ⟨b, _, none⟩) h1).trans h6, (hb.cell (p := ⟨b, _, none⟩) h1).trans h7⟩⟩
theorem TS.mono {w : World} {B B' : Nat} {l : List TK} {A : Option Addr} {c : Nat} (h : TS w B l A c) (hB : B ≤ B') : TS w B' l A c :=
 ⟨h.le, h.mx, fun i a ha => by
  obtain ⟨b, o, e, h1, h2⟩ := h.r i a ha
  exact ⟨b, o, e, by omega, h2⟩⟩
theorem TS.on {w w' : World} {l : List TK} {A : Option Addr} {c : Nat} (h : TS w w.heap.size l A c) (hb : Below w.heap.size w w') : TS w' w'.heap.size l A c := (h.below hb).mono hb.size
theorem rowC_at : ∀ (l : List TK) (i : Nat) (x : TK), l[i]? = some x → ∀ j, j < 6 → (rowC l)[i * 6 + j]? = (tokC x)[j]?
 | [], i, a, h, _, _ => by simp at h
 | x :: l, 0, a, h, j, hj => by
  simp at h
  subst h
  rw [show rowC (x :: l) = (tokC x).toList ++ rowC l from rfl, Nat.zero_mul, Nat.zero_add, List.getElem?_append_left (by simpa [tokC] using hj)]
  simp
 | x :: l, i + 1, a, h, j, hj => by
  have ih := rowC_at l i a (by simpa using h) j hj
  rw [show rowC (x :: l) = (tokC x).toList ++ rowC l from rfl, List.getElem?_append_right (by simp [tokC]; omega)]
  rw [← ih]
  congr 1
  simp [tokC]
  omega
theorem TS.of_own {w : World} {base : Nat} {l : List TK} {v : Value} (h : OwnT w base l v) : ∃ A c, v = .slice A l.length c ∧ TS w w.heap.size l A c := by
 rcases h.2 with ⟨h1, h2⟩ | ⟨g, cap, cur, h1, h2, h3, h4, h5, h6, h7⟩
 ·have hn : l = [] := List.eq_nil_of_length_eq_zero h2
  subst hn
  exact ⟨none, 0, by rw [h1]; rfl, ⟨Nat.le_refl _, by unfold maxLen; omega, fun i a ha => by simp at ha⟩⟩
 ·refine ⟨_, cap, h1, ⟨h4, h5, fun i a ha => ⟨g, 0, rfl, (Array.getElem?_eq_some_iff.1 h3).1, ?_⟩⟩⟩
  have c := fun j hj u (hu : (tokC a)[j]? = some u) => World.ownsRow.cells h (g := g) (by rw [h1]; rfl) (i * 6 + j) u ((rowC_at l i a ha j hj).trans hu)
  have d0 := c 0 (by omega) _ rfl
  have d1 := c 1 (by omega) _ rfl
  have d2 := c 2 (by omega) _ rfl
  have d3 := c 3 (by omega) _ rfl
  have d4 := c 4 (by omega) _ rfl
  have d5 := c 5 (by omega) _ rfl
  rw [add0] at d0 d1 d2 d3 d4 d5
  simp only [Nat.zero_add]
  exact ⟨d0, d1, d2, d3, d4, d5⟩
theorem isRaw_kind {x : TK} (h : isRaw x = true) : x.kind = 2 := by
 unfold isRaw at h
 simp only [Bool.and_eq_true, decide_eq_true_eq] at h
 exact h.1.1
end Go.Proofs.YtfafhbgkmlmmdaaGreatDoor
namespace Go.Proofs.YtfafhbgkmlmmdaaGreatDoor.K
open Go.RowKit Go.Shelf Go.Lib Go.Maps
attribute [local irreducible] nmL ofN
structure ES where
 c : Ct
 f : Bool
 x : Bool
def es0 : ES := ⟨⟨0, 0, 0⟩, false, false⟩
def nmB (t : TK) : ByteArray := ⟨(G.u8s t.name).toArray⟩
theorem nmB_size (t : TK) : (nmB t).size = t.name.length := by simp [nmB, G.u8s, ByteArray.size]
def ES.cs (s : ES) (t : TK) : Ct := takeC (nameN (nmB t)) (t.kind : Int) t.sg s.c
def ES.fs (s : ES) (t : TK) : Bool := s.f || takeF (nameN (nmB t)) (t.kind : Int) s.c
def ES.xs (s : ES) (t : TK) : Bool := s.x || takeX (nameN (nmB t)) (t.kind : Int) s.c
def ES.turn (s : ES) (t : TK) : ES := ⟨s.cs t, tkG t.kind (s.cs t) (s.fs t), tkG t.kind (s.cs t) (s.xs t)⟩
def ES.items (s : ES) (B : Nat → Nat) (t : TK) : List IT := tkI t.kind t.fr t.to t.r (t.to - t.fr) (fun j => B (t.fr + j)) (s.cs t) (s.fs t) (s.xs t)
def allI (B : Nat → Nat) : ES → List TK → List IT
 | _, [] => []
 | s, t :: r => s.items B t ++ allI B (s.turn t) r
theorem items_len (s : ES) (B : Nat → Nat) (t : TK) (h : t.fr < t.to) : (s.items B t).length ≤ t.to - t.fr := by
 unfold ES.items tkI
 split
 ·exact Nat.zero_le _
 ·split
  ·exact textF_len _ _ _ _ _ _ _ _ _
  ·split
   ·show 1 ≤ t.to - t.fr
    omega
   ·exact Nat.zero_le _
theorem turn_ok (s : ES) (t : TK) (h : s.c.ok) : (s.turn t).c.ok := takeC_ok _ _ _ h
def bF (xs : List Nat) (j : Nat) : Nat := xs.getD j 0
theorem by_bs {w : World} {B : Nat} {xs : List Nat} {b o cap : Nat} (h : BY w B xs (some ⟨b, o, none⟩) cap) (fr tt : Nat) (ht : tt ≤ xs.length) : S.Bs w b (o + fr) (tt - fr) (fun j => bF xs (fr + j)) := fun j hj => by
 have hlt : fr + j < xs.length := by omega
 obtain ⟨b', o', e, _, hr⟩ := h.r (by rintro rfl; simp at hlt)
 cases e
 have e2 : xs[fr + j]? = some (bF xs (fr + j)) := by
  unfold bF
  rw [List.getD_eq_getElem?_getD, List.getElem?_eq_getElem hlt]
  rfl
 have := hr (fr + j) _ e2
 rw [← Nat.add_assoc] at this
 exact ⟨this, h.i _ (List.mem_of_getElem? e2)⟩
theorem refStep_tn (s : G.RS) (c : Nat) : (G.refStep s c).1.tn.length ≤ s.tn.length + 1 := by
 unfold G.refStep
 split
 all_goals (repeat' split)
 all_goals simp
theorem refGo_name (N k : Nat) : ∀ (l : List Nat) (s : G.RS), (G.refGo N k s l).name.length ≤ s.tn.length + l.length
 | [], s => Nat.le_refl _
 | c :: t, s => by
  have h := refStep_tn s c
  unfold G.refGo
  split
  ·show (G.refStep s c).1.tn.length ≤ _
   simp only [List.length_cons]
   omega
  ·have := refGo_name N k t (G.refStep s c).1
   simp only [List.length_cons]
   omega
theorem upGo_name (N k : Nat) (e : List Nat) : ∀ l, (G.upGo N k e l).name = []
 | [] => rfl
 | c :: t => by
  unfold G.upGo
  split
  ·rfl
  ·exact upGo_name N k e t
theorem rdT_name {l : List Nat} {T : G.TG} (h : G.rdT l = some T) : T.name.length ≤ l.length := by
 unfold G.rdT at h
 split at h
 ·split at h
  ·cases h
  ·split at h
   ·cases h
    refine Nat.le_trans (refGo_name _ _ _ _) ?_
    simp [G.rs0]
   ·split at h
    ·cases h
     refine Nat.le_trans (refGo_name _ _ _ _) ?_
     simp [G.rs0]
     omega
    ·split at h
     ·cases h
      rw [upGo_name]
      simp
     ·split at h
      ·cases h
       rw [upGo_name]
       simp
      ·cases h
 ·cases h
theorem mark_name {xs : List Nat} {k : Nat} {t : TK} (h : markT xs k = some t) : t.name.length ≤ xs.length := by
 unfold markT at h
 split at h
 ·rename_i T hT
  cases h
  have := rdT_name hT
  simp at this
  show T.name.length ≤ _
  omega
 ·split at h
  ·cases h
   exact Nat.zero_le _
  ·split at h
   ·cases h
    exact Nat.zero_le _
   ·cases h
theorem marks_all {xs : List Nat} (Q : TK → Prop) (h7 : ∀ a b, Q ⟨7, a, b, [], 0, false⟩) (hm : ∀ k t, k < xs.length → markT xs k = some t → Q t) : ∀ (d k : Nat), xs.length - k = d → ∀ t ∈ marksL xs k, Q t := by
 intro d
 induction d using Nat.strongRecOn with
 | _ d ih =>
  intro k hd t ht
  by_cases h : k < xs.length
  case neg =>
   rw [marksL_end h] at ht
   simp at ht
  case pos =>
   cases hk : markT xs k with
   | none =>
    rw [marksL_none h hk] at ht
    exact ih _ (by omega) (k + 1) rfl t ht
   | some y =>
    rw [marksL_some h hk] at ht
    have h2 := rawT_gt h hk
    rcases List.mem_cons.1 ht with rfl | ht
    ·exact hm k _ h hk
    ·rcases List.mem_append.1 ht with ht | ht
     ·unfold rawTok at ht
      split at ht
      ·simp at ht
       subst ht
       exact h7 _ _
      ·simp at ht
     ·exact ih _ (by omega) (rawT xs y) rfl t ht
theorem txs_all (Q : TK → Prop) (h0 : ∀ a b, Q (txT a b)) (a b : Nat) : ∀ t ∈ txs a b, Q t := fun t ht => by
 unfold txs at ht
 split at ht
 ·simp at ht
  subst ht
  exact h0 _ _
 ·simp at ht
theorem out_all (Q : TK → Prop) (h0 : ∀ a b, Q (txT a b)) : ∀ (l : List TK) (e : Nat), (∀ t ∈ l, Q t) → ∀ t ∈ outF e l, Q t
 | [], _, _, t, ht => by simp [outF] at ht
 | y :: r, e, h, t, ht => by
  rcases List.mem_append.1 (show t ∈ txs e y.fr ++ (y :: outF y.to r) from ht) with ht | ht
  ·exact txs_all Q h0 _ _ t ht
  ·rcases List.mem_cons.1 ht with rfl | ht
   ·exact h _ (List.mem_cons_self ..)
   ·exact out_all Q h0 r y.to (fun u hu => h u (List.mem_cons_of_mem _ hu)) t ht
theorem each_all {xs : List Nat} (Q : TK → Prop) (h0 : ∀ a b, Q (txT a b)) (h7 : ∀ a b, Q ⟨7, a, b, [], 0, false⟩) (hm : ∀ k t, k < xs.length → markT xs k = some t → Q t) : ∀ t ∈ eachL xs, Q t := fun t ht => by
 rcases List.mem_append.1 (show t ∈ outF 0 (marksL xs 0) ++ txs (endF 0 (marksL xs 0)) xs.length from ht) with ht | ht
 ·exact out_all Q h0 _ _ (marks_all Q h7 hm _ 0 rfl) t ht
 ·exact txs_all Q h0 _ _ t ht
theorem each_name (xs : List Nat) : ∀ t ∈ eachL xs, t.name.length ≤ xs.length :=
 each_all (fun t => t.name.length ≤ xs.length) (fun _ _ => Nat.zero_le _) (fun _ _ => Nat.zero_le _) (fun _ _ _ h => mark_name h)
theorem tiles_le : ∀ (l : List TK) (e E : Nat), tiles e l E → e ≤ E
 | [], e, E, h => by simp [tiles] at h; omega
 | t :: r, e, E, h => by
  have := tiles_le r t.to E h.2.2
  have := h.2.1
  omega
theorem drop_cons {α : Type} {l : List α} {k : Nat} {a : α} (h : l[k]? = some a) : l.drop k = a :: l.drop (k + 1) := by
 obtain ⟨h1, h2⟩ := List.getElem?_eq_some_iff.1 h
 rw [← h2]
 exact List.drop_eq_getElem_cons h1
theorem xnew_any (w : World) : Calls Tryz.prog 83 #[] w fun e w' => e = .returned (.pointer (some ⟨w.heap.size + 1, 0, none⟩)) ∧ w' = (w.alloc (.cells (ctA ⟨0, 0, 0⟩) 192)).alloc (.cells (exA w.heap.size false false) 154) := by
 have CN := new_any w
 obtain ⟨W1, hW1⟩ : ∃ V, w.alloc (.cells (ctA ⟨0, 0, 0⟩) 192) = V := ⟨_, rfl⟩
 have s1 : W1.heap.size = w.heap.size + 1 := by rw [← hW1]; simp
 rw [hW1] at CN ⊢
 rw [← s1]
 unfold exA
 have HW := Lib.hid hW1
 clear hW1 s1
 go_enter Tryz.func83, Tryz.ntmps83
 go_wp2_with fail
 refine CN.mono ?_
 rintro e w1 ⟨rfl, rfl⟩
 clear CN
 go_wp2_with fail
 go_ret
 exact ⟨rfl, rfl⟩
theorem etake_any (t : TK) (s : ES) (xs : List Nat) (hl : xs.length ≤ 100000) (ht : t.fr < t.to) (hto : t.to ≤ xs.length) (hnm : t.name.length ≤ xs.length) (gn gx : Nat) (hgn : gn ≠ gx) (hg5 : 5 ≤ gx) (hn5 : 5 ≤ gn) (hc : s.c.ok) (b o cap B : Nat)
  (w : World) (hn : NeAt w gn s.c) (hx : Cells w gx 154 (exA gn s.f s.x)) (hM : MX w) (hT : S.Tabs w) (hb : BY w B xs (some ⟨b, o, none⟩) cap) (hbx : b ≠ gx) (hbn : b ≠ gn) :
  Calls Tryz.prog 84 #[.pointer (some ⟨gx, 0, none⟩), tokV t, .slice (some ⟨b, o + t.fr, none⟩) (t.to - t.fr) (cap - t.fr)] w fun e w' => ∃ v, e = .returned v ∧
   OwnIt w' w.heap.size (s.items (bF xs) t) v ∧ (s.items (bF xs) t = [] → v = .slice none 0 0) ∧ NeAt w' gn (s.turn t).c ∧ Cells w' gx 154 (exA gn (s.turn t).f (s.turn t).x) ∧ Fz (fun k => k = gn ∨ k = gx) w w' :=
 xtake_any t.kind t.fr t.to (nmB t) t.r t.sg (by rw [nmB_size]; omega) gn gx hgn hg5 hn5 s.c hc s.f s.x (some ⟨b, o + t.fr, none⟩) (t.to - t.fr) (cap - t.fr) (fun j => bF xs (t.fr + j)) (by omega) (by have := hb.l; omega) (by have := hb.m; omega) (by omega) (by omega) w hn hx hM hT
  (fun _ => ⟨b, o + t.fr, rfl, by_bs hb t.fr t.to hto, hbx, hbn, by omega⟩)
theorem fz_cell {X : Nat → Prop} {w w' : World} (h : Fz X w w') {b o : Nat} {v : Value} (hc : w.cell? ⟨b, o, none⟩ = some v) (hX : ¬ X b) : w'.cell? ⟨b, o, none⟩ = some v :=
 (World.cell?_of_block (a := ⟨b, o, none⟩) (h.block b (block_lt_of_cell hc) hX)).trans hc
structure AW (w2 : World) (gn gx : Nat) (s : ES) (W : World) : Prop where
 ok : s.c.ok
 n : NeAt W gn s.c
 x : Cells W gx 154 (exA gn s.f s.x)
 z : Fz (fun k => k = gn ∨ k = gx) w2 W
theorem xall_any (xs : List Nat) (A : Option Addr) (cap : Nat) (w : World) (hb : BY w w.heap.size xs A cap) (hl : xs.length ≤ 100000) (hM : G.MX w) (hT : S.Tabs w) :
  Calls Tryz.prog 52 #[.slice A xs.length cap] w fun e w' => ∃ v, e = .returned v ∧ OwnIt w' w.heap.size (allI (bF xs) es0 (eachL xs)) v ∧ Below w.heap.size w w' := by
 have CT := fun W (h : Below w.heap.size w W) => All_any xs A cap W (hb.on h) hl (hM.on hM.pos h) (hT.below h (by have := hT.2; omega))
 have CN := xnew_any w
 obtain ⟨L, hL⟩ : ∃ q, eachL xs = q := ⟨_, rfl⟩
 have htl : tiles 0 L xs.length := by rw [← hL]; exact eachL_tiles xs
 have hnm : ∀ t ∈ L, t.name.length ≤ xs.length := by rw [← hL]; exact each_name xs
 simp only [hL] at CT
 rw [hL]
 obtain ⟨ALL, hALL⟩ : ∃ q, allI (bF xs) es0 L = q := ⟨_, rfl⟩
 rw [hALL]
 obtain ⟨N, hN⟩ : ∃ q, xs.length = q := ⟨_, rfl⟩
 rw [hN] at htl hnm hl CT ⊢
 have hcap := hb.l
 have hmx := hb.m
 rw [hN] at hcap
 have h5 := hT.2
 obtain ⟨gn, hgn⟩ : ∃ q, w.heap.size = q := ⟨_, rfl⟩
 have HC := Lib.hid CT
 have HL := Lib.hid (And.intro hL (And.intro htl (And.intro hnm (And.intro hALL (And.intro hN (And.intro hl hgn))))))
 have HB := Lib.hid (And.intro hb (And.intro hM (And.intro hT h5)))
 clear CT hL htl hnm hALL hN hl hb hM hT h5
 rw [hgn] at CN ⊢
 clear hgn
 go_enter Tryz.func52, Tryz.ntmps52
 go_wp2_with fail
 refine CN.mono ?_
 rintro e w1 ⟨rfl, hw1⟩
 clear CN
 have b0 := below_new w (.cells (ctA ⟨0, 0, 0⟩) 192)
 have n0 := cells_new w (ctA ⟨0, 0, 0⟩) 192
 obtain ⟨w0, hw0⟩ : ∃ V, w.alloc (.cells (ctA ⟨0, 0, 0⟩) 192) = V := ⟨_, rfl⟩
 have s0 : w0.heap.size = gn + 1 := by rw [← hw0, ← HL.out.2.2.2.2.2.2]; simp
 rw [hw0] at b0 n0 hw1
 have b1 := below_new w0 (.cells (exA gn false false) 154)
 have x1 := cells_new w0 (exA gn false false) 154
 rw [← hw1] at b1 x1
 have n1 : NeAt w1 gn ⟨0, 0, 0⟩ := by
  have := Cells.on n0 b1
  rw [HL.out.2.2.2.2.2.2] at this
  exact this
 have s1 : w1.heap.size = gn + 2 := by rw [hw1]; simp [s0]
 have bw1 : Below w.heap.size w w1 := b0.trans (b1.mono b0.size)
 rw [s0] at x1
 obtain ⟨gx, hgx⟩ : ∃ q, gn + 1 = q := ⟨_, rfl⟩
 rw [hgx] at x1 ⊢
 have H1 := Lib.hid (And.intro n1 (And.intro x1 (And.intro bw1 (And.intro s1 hgx))))
 clear b0 n0 hw0 s0 hw1 b1 x1 n1 s1 bw1 hgx
 go_wp2_with fail
 refine (HC.out w1 H1.out.2.2.1).mono ?_
 rintro e w2 ⟨v, rfl, ho, b2⟩
 obtain ⟨A2, c2, rfl, hS⟩ := TS.of_own ho
 have hbt : ∀ bb oo, A2 = some ⟨bb, oo, none⟩ → w1.heap.size ≤ bb := fun bb oo e => (own_block_lt ho bb (by rw [e]; rfl)).1
 have hle := hS.le
 have hmx2 := hS.mx
 obtain ⟨n, hn⟩ : ∃ n, L.length = n := ⟨_, rfl⟩
 rw [hn] at hle ⊢
 have H2 := Lib.hid (And.intro hS (And.intro b2 (And.intro hbt hn)))
 have HA2 : AW w2 gn gx es0 w2 := ⟨ok0, Cells.on H1.out.1 b2, Cells.on H1.out.2.1 b2, Fz.refl _ _⟩
 have HA := Lib.hid HA2
 have hgw := HL.out.2.2.2.2.2.2
 have hs1 := H1.out.2.2.2.1
 have hgx1 := H1.out.2.2.2.2
 have b12 : Below gn w w2 := by
  rw [← hgw]
  exact H1.out.2.2.1.trans (b2.mono H1.out.2.2.1.size)
 have hs2 := b2.size
 have HW2 := Lib.hid (And.intro b12 (And.intro (show gn ≤ w2.heap.size by omega) (And.intro (show ∀ q, q < gn → ¬ (q = gn ∨ q = gx) by intro q hq; omega) (And.intro (show gx < w2.heap.size by omega) (show gn < gx ∧ gx < w1.heap.size by omega)))))
 clear hgw hs1 hgx1 b12 hs2
 clear ho b2 hS hbt hn HA2
 go_wp2_with fail
 go_loopw [3, 6, 11] (fun o _ i wr => ∃ (k : Nat) (pre : List IT) (s : ES) (e : Nat), k ≤ n ∧ i = .int .i64 (k : Int) ∧ OwnIt wr w2.heap.size pre o ∧ AW w2 gn gx s wr ∧ pre ++ allI (bF xs) s (L.drop k) = ALL ∧ tiles e (L.drop k) N ∧ pre.length ≤ e) (fun _ _ i _ => n - (RowKit.intOf i).toNat)
 case atStart => exact ⟨0, [], es0, 0, Nat.zero_le _, rfl, ownIt_nil _ _, HA.out, by simpa using HL.out.2.2.2.1, by simpa using HL.out.2.1, Nat.zero_le _⟩
 case round =>
  obtain ⟨k, pre, s, e, hk, rfl, ho, ha, hall, htl, hpe⟩ := hrel
  by_cases hkn : k < n
  case pos =>
   have i1 : (k : Int) < (n : Int) := by omega
   obtain ⟨t, ht⟩ : ∃ t, L[k]? = some t := ⟨_, List.getElem?_eq_getElem (by rw [H2.out.2.2.2]; exact hkn)⟩
   rw [drop_cons ht] at hall htl
   have hmem : t ∈ L := List.mem_of_getElem? ht
   have hnmt := HL.out.2.2.1 t hmem
   have hto : t.to ≤ N := tiles_le _ _ _ htl.2.2
   have hfr : t.fr < t.to := by rw [htl.1]; exact htl.2.1
   have hlN := HL.out.2.2.2.2.2.1
   have hxN := HL.out.2.2.2.2.1
   obtain ⟨b, o', rfl, hbw, _⟩ := HB.out.1.r (by rintro rfl; simp at hxN; omega)
   obtain ⟨tb, oo, rfl, htb, d0, d1, d2, d3, d4, d5⟩ := H2.out.1.r k t ht
   have htb1 := H2.out.2.2.1 tb oo rfl
   have hgg := HW2.out.2.2.2.2
   have hne : ¬ (tb = gn ∨ tb = gx) := by omega
   have hcl := cap
   have d0 := fz_cell ha.z d0 hne
   have d1 := fz_cell ha.z d1 hne
   have d2 := fz_cell ha.z d2 hne
   have d3 := fz_cell ha.z d3 hne
   have d4 := fz_cell ha.z d4 hne
   have d5 := fz_cell ha.z d5 hne
   have bwr : Below gn w wr := HW2.out.1.trans (ha.z.below HW2.out.2.1 HW2.out.2.2.1)
   have CK := fun W (h1 : NeAt W gn s.c) (h2 : Cells W gx 154 (exA gn s.f s.x)) (h3 : Below gn w W) => etake_any t s xs (by omega) hfr (by omega) (by omega) gn gx (by omega) (by have := HB.out.2.2.2; have := HL.out.2.2.2.2.2.2; omega) (by have := HB.out.2.2.2; have := HL.out.2.2.2.2.2.2; omega) ha.ok b o' cap w.heap.size W h1 h2
    (HB.out.2.1.on (by have := HB.out.2.2.2; have := HL.out.2.2.2.2.2.2; omega) h3) (HB.out.2.2.1.below h3 (by have := HB.out.2.2.2; have := HL.out.2.2.2.2.2.2; omega)) (HB.out.1.below (by rw [HL.out.2.2.2.2.2.2]; exact h3)) (by have := HL.out.2.2.2.2.2.2; omega) (by have := HL.out.2.2.2.2.2.2; omega)
   have hsl : ∀ W, (Instr.slice 22 (.slice (some ⟨b, o', none⟩) N cap) (some (.int .i64 (t.fr : Int))) (some (.int .i64 (t.to : Int))) none).run Tryz.prog W = .ok (.slice (some ⟨b, o' + t.fr, none⟩) (t.to - t.fr) (cap - t.fr)) W :=
    fun W => slice_win b o' N cap t.fr t.to (by omega) (by omega) (by omega) W
   have hil := items_len s (bF xs) t hfr
   obtain ⟨SN, hSN⟩ : ∃ q : ByteArray, (⟨(G.u8s t.name).toArray⟩ : ByteArray) = q := ⟨_, rfl⟩
   have htv : tokV t = .agg #[.int .i64 (t.kind : Int), .int .i64 (t.fr : Int), .int .i64 (t.to : Int), .string SN, .int .i32 t.r, .bool t.sg] := by rw [← hSN]; rfl
   have hok' := turn_ok s t ha.ok
   obtain ⟨its, hits⟩ : ∃ q, s.items (bF xs) t = q := ⟨_, rfl⟩
   obtain ⟨s', hs'⟩ : ∃ q, s.turn t = q := ⟨_, rfl⟩
   simp only [htv, hits, hs'] at CK
   have hall : pre ++ (its ++ allI (bF xs) s' (L.drop (k + 1))) = ALL := by rw [← hits, ← hs']; exact hall
   rw [hits] at hil
   rw [hs'] at hok'
   rw [hSN] at d3
   have e1 : wr.cell? ⟨tb, oo + k * 6 + 1, none⟩ = some (.int .i64 (t.fr : Int)) := by rw [Nat.add_assoc]; exact d1
   have e2 : wr.cell? ⟨tb, oo + k * 6 + 2, none⟩ = some (.int .i64 (t.to : Int)) := by rw [Nat.add_assoc]; exact d2
   have e3 : wr.cell? ⟨tb, oo + k * 6 + 3, none⟩ = some (.string SN) := by rw [Nat.add_assoc]; exact d3
   have e4 : wr.cell? ⟨tb, oo + k * 6 + 4, none⟩ = some (.int .i32 t.r) := by rw [Nat.add_assoc]; exact d4
   have e5 : wr.cell? ⟨tb, oo + k * 6 + 5, none⟩ = some (.bool t.sg) := by rw [Nat.add_assoc]; exact d5
   have hpe' : pre.length + its.length ≤ t.to := by have := htl.1; omega
   have HR := Lib.hid (And.intro ha (And.intro ho (And.intro hall (And.intro htl.2.2 (And.intro hpe' (And.intro hok' (And.intro bwr (And.intro hto hlN))))))))
   have HK := Lib.hid CK
   have HS := Lib.hid hsl
   have hnN : n ≤ 100000 := by
    have h1 := tiles_len _ _ _ HL.out.2.1
    have h2 := H2.out.2.2.2
    omega
   have ik : (k : Int) ≤ 100000 := by omega
   clear hnN
   clear ha ho hall htl hpe hpe' hok' bwr hto hlN CK hsl ht hmem hnmt hfr hxN hil htv hits hs' hSN hgg hne hcl hbw htb htb1
   go_upto_region 6 with fail
   have tk := cells_new wr #[.int .i64 (t.kind : Int), .int .i64 (t.fr : Int), .int .i64 (t.to : Int), .string SN, .int .i32 t.r, .bool t.sg] 35
   have bk := below_new wr (.cells #[.int .i64 (t.kind : Int), .int .i64 (t.fr : Int), .int .i64 (t.to : Int), .string SN, .int .i32 t.r, .bool t.sg] 35)
   obtain ⟨Wk, hWk⟩ : ∃ V, wr.alloc (.cells #[.int .i64 (t.kind : Int), .int .i64 (t.fr : Int), .int .i64 (t.to : Int), .string SN, .int .i32 t.r, .bool t.sg] 35) = V := ⟨_, rfl⟩
   rw [hWk] at tk bk ⊢
   clear hWk d0 d1 d2 d3 d4 d5 e1 e2 e3 e4 e5
   have hob := own_block_lt HR.out.2.1
   have hrs : w2.heap.size ≤ wr.heap.size := HR.out.1.z.size
   have hgg := HW2.out.2.2.2
   have hX : ¬ (wr.heap.size = gn ∨ wr.heap.size = gx ∨ u3.ownBlock = some wr.heap.size) := by
    rintro (e | e | e)
    ·omega
    ·omega
    ·have := (hob _ e).2
     omega
   have g0 : ∀ p : Later (fun q => q = gn ∨ q = gx ∨ u3.ownBlock = some q) Wk, p.W.cell? ⟨wr.heap.size, 0, none⟩ = some (.int .i64 (t.kind : Int)) := fun p => cell_later (tk.cell 0) hX p
   have g1 : ∀ p : Later (fun q => q = gn ∨ q = gx ∨ u3.ownBlock = some q) Wk, p.W.cell? ⟨wr.heap.size, 1, none⟩ = some (.int .i64 (t.fr : Int)) := fun p => cell_later (tk.cell 1) hX p
   have g2 : ∀ p : Later (fun q => q = gn ∨ q = gx ∨ u3.ownBlock = some q) Wk, p.W.cell? ⟨wr.heap.size, 2, none⟩ = some (.int .i64 (t.to : Int)) := fun p => cell_later (tk.cell 2) hX p
   have g3 : ∀ p : Later (fun q => q = gn ∨ q = gx ∨ u3.ownBlock = some q) Wk, p.W.cell? ⟨wr.heap.size, 3, none⟩ = some (.string SN) := fun p => cell_later (tk.cell 3) hX p
   have g4 : ∀ p : Later (fun q => q = gn ∨ q = gx ∨ u3.ownBlock = some q) Wk, p.W.cell? ⟨wr.heap.size, 4, none⟩ = some (.int .i32 t.r) := fun p => cell_later (tk.cell 4) hX p
   have g5 : ∀ p : Later (fun q => q = gn ∨ q = gx ∨ u3.ownBlock = some q) Wk, p.W.cell? ⟨wr.heap.size, 5, none⟩ = some (.bool t.sg) := fun p => cell_later (tk.cell 5) hX p
   have HZ := Lib.hid (And.intro bk (And.intro hob hrs))
   have hsl := HS.out
   clear tk bk hob hrs hgg hX
   refine wp_region_mixF (fun i => if 9 ≤ i then 2 else 0) [0, 1, 2, 3, 4, 5, 6, 7, 8] 3 (fun w' => ∃ p : Later (fun q => q = gn ∨ q = gx ∨ u3.ownBlock = some q) Wk, w' = p.W) (by kernel_rfl) (by kernel_rfl) ⟨⟨_, Fz.drew Wk⟩, rfl⟩ ?_
   simp only [opsAt, List.filterMap_cons, List.filterMap_nil, List.getElem?_toArray, List.getElem?_cons_zero, List.getElem?_cons_succ]
   change wpQuiet _ _ _ _ [_, _, _, _, _, _, _, _, _] _
   repeat (go_big_quiet_step (fail))
   refine wpQuiet_nil ?_
   clear g0 g1 g2 g3 g4 g5 hsl
   have z0 : Fz (fun q => q = gn ∨ q = gx) Wk { Wk with drawn := Wk.drawn + 1 } := Fz.drew Wk
   have bwk : Below gn w Wk := HR.out.2.2.2.2.2.2.1.trans (HZ.out.1.mono (Nat.le_trans HW2.out.2.1 HZ.out.2.2))
   have nk : NeAt Wk gn s.c := Cells.on HR.out.1.n HZ.out.1
   have xk : Cells Wk gx 154 (exA gn s.f s.x) := HR.out.1.x.on HZ.out.1
   have C1 := HK.out { Wk with drawn := Wk.drawn + 1 } nk xk ⟨bwk.os, bwk.tape, bwk.output, bwk.size, bwk.block⟩
   clear bwk nk xk
   refine wpFreeM_step [9] (by kernel_rfl) ⟨?_, trivial⟩
   refine wpOp_of_list rfl ?_
   go_wp2_with fail
   refine C1.mono ?_
   rintro e w6 ⟨v, rfl, ho6, hv6, hn6, hx6, hz6⟩
   have zk := z0.trans hz6
   have zr : Fz (fun q => q = gn ∨ q = gx) wr w6 := (Fz.of_below HZ.out.1).trans zk
   have own6 : OwnIt w6 w2.heap.size pre u3 := own_fz zr HR.out.2.1 (fun q hq e => by
    have h1 := (HZ.out.2.1 q e).1
    have h2 := HW2.out.2.2.2
    omega)
   have z26 : Fz (fun q => q = gn ∨ q = gx) w2 w6 := HR.out.1.z.trans zr
   have a6 : AW w2 gn gx s' w6 := ⟨HR.out.2.2.2.2.2.1, hn6, hx6, z26⟩
   have H6 := Lib.hid (And.intro own6 (And.intro a6 (And.intro ho6 (And.intro hv6 (zk.mono (Y := fun q => q = gn ∨ q = gx ∨ u3.ownBlock = some q) (fun q hq => hq.elim .inl (fun e => .inr (.inl e))))))))
   clear C1 z0 zk zr own6 z26 a6 ho6 hv6 hn6 hx6 hz6
   go_wp2_with fail
   refine ⟨⟨⟨_, H6.out.2.2.2.2⟩, rfl⟩, ?_⟩
   refine wpFreeM_step [10] (by kernel_rfl) ⟨?_, trivial⟩
   refine wpOp_of_list rfl ?_
   obtain ⟨i42, z42, hi42, _⟩ := info42_parts
   have HI := Lib.hid hi42
   clear hi42
   by_cases hne : its = []
   case pos =>
    obtain rfl := H6.out.2.2.2.1 hne
    have hend : ∃ (k' : Nat) (pre' : List IT) (s'' : ES) (e : Nat), k' ≤ n ∧ Value.int .i64 ((k : Int) + 1) = .int .i64 (k' : Int) ∧ OwnIt w6 w2.heap.size pre' u3 ∧ AW w2 gn gx s'' w6 ∧ pre' ++ allI (bF xs) s'' (L.drop k') = ALL ∧ tiles e (L.drop k') N ∧ pre'.length ≤ e := by
     refine ⟨k + 1, pre, s', t.to, by omega, by simp, H6.out.1, H6.out.2.1, ?_, HR.out.2.2.2.1, by have := HR.out.2.2.2.2.1; omega⟩
     have := HR.out.2.2.1
     rw [hne, List.nil_append] at this
     exact this
    have HEND := Lib.hid hend
    clear hend hne
    refine wpList_append_own_none rfl (.tmp 15) (.tmp 24) 55 rfl w2.heap.size 52 i42 7 Tryz.underlying55 HI.out u3 _ _ rfl H6.out.1 rfl ?_
    go_wp2_with fail
    refine ⟨⟨⟨_, H6.out.2.2.2.2⟩, rfl⟩, ?_⟩
    refine wpFreeM_step [11] (by kernel_rfl) ⟨?_, trivial⟩
    refine wpOp_of_list rfl ?_
    go_wp2_with fail
    refine ⟨⟨⟨_, H6.out.2.2.2.2⟩, rfl⟩, ?_⟩
    unfold wpFreeM
    go_wp2_with fail
    go_roundw
    case rel => exact HEND.out
    case measure => simp [RowKit.intOf]; omega
   case neg =>
    obtain ⟨A6, c6, rfl, hIs⟩ := IsA.of_own H6.out.2.2.1
    have hb6 : w2.heap.size ≤ w6.heap.size := H6.out.2.1.z.size
    have hl6 : pre.length + its.length ≤ 1000000 := by
     have h1 := HR.out.2.2.2.2.1
     have h2 := HR.out.2.2.2.2.2.2.2
     omega
    have HI6 := Lib.hid (And.intro hIs (And.intro hb6 (And.intro hl6 hne)))
    clear hIs hb6 hl6 hne
    refine (wpList_appIs rfl (.tmp 15) (.tmp 24) rfl w2.heap.size u3 pre its rfl H6.out.1 A6 c6 HI6.out.1 HI6.out.2.2.2 rfl HI6.out.2.2.1 HI6.out.2.1 ?_)
    intro g cp w7 o7 g7
    have z7 : Fz (fun q => u3.ownBlock = some q) w6 w7 := Fz.of_grown g7 (fun q e => e)
    have hend : ∃ (k' : Nat) (pre' : List IT) (s'' : ES) (e : Nat), k' ≤ n ∧ Value.int .i64 ((k : Int) + 1) = .int .i64 (k' : Int) ∧ OwnIt w7 w2.heap.size pre' (.slice (some ⟨g, 0, none⟩) (pre.length + its.length) cp) ∧ AW w2 gn gx s'' w7 ∧ pre' ++ allI (bF xs) s'' (L.drop k') = ALL ∧ tiles e (L.drop k') N ∧ pre'.length ≤ e := by
     have hgn : ¬ u3.ownBlock = some gn := fun e => by
      have h1 := (HZ.out.2.1 gn e).1
      have h2 := HW2.out.2.2.2
      omega
     have hgx : ¬ u3.ownBlock = some gx := fun e => by
      have h1 := (HZ.out.2.1 gx e).1
      have h2 := HW2.out.2.2.2
      omega
     have h6 := H6.out.2.1
     refine ⟨k + 1, pre ++ its, s', t.to, by omega, by simp, o7, ⟨h6.ok, z7.cellsK hgn h6.n, z7.cellsK hgx h6.x, ?_⟩, ?_, HR.out.2.2.2.1, by have := HR.out.2.2.2.2.1; simp; omega⟩
     ·refine ⟨z7.os.trans h6.z.os, z7.tape.trans h6.z.tape, z7.output.trans h6.z.output, Nat.le_trans h6.z.size z7.size, fun q hq hn => (z7.block q (Nat.lt_of_lt_of_le hq h6.z.size) (fun e => ?_)).trans (h6.z.block q hq hn)⟩
      have h1 := (HZ.out.2.1 q e).1
      omega
     ·rw [List.append_assoc]
      exact HR.out.2.2.1
    have HEND := Lib.hid hend
    have H7 := Lib.hid (H6.out.2.2.2.2.trans (z7.mono (Y := fun q => q = gn ∨ q = gx ∨ u3.ownBlock = some q) (fun q e => .inr (.inr e))))
    clear hend o7 g7 z7
    go_wp2_with fail
    refine ⟨⟨⟨_, H7.out⟩, rfl⟩, ?_⟩
    refine wpFreeM_step [11] (by kernel_rfl) ⟨?_, trivial⟩
    refine wpOp_of_list rfl ?_
    go_wp2_with fail
    refine ⟨⟨⟨_, H7.out⟩, rfl⟩, ?_⟩
    unfold wpFreeM
    go_wp2_with fail
    go_roundw
    case rel => exact HEND.out
    case measure => simp [RowKit.intOf]; omega
  case neg =>
   obtain rfl : k = n := by omega
   have i1 : ¬ (k : Int) < (k : Int) := by omega
   rw [show L.drop k = [] from List.drop_eq_nil_of_le (by rw [H2.out.2.2.2]; exact Nat.le_refl _)] at hall
   have hall : pre = ALL := by simpa [allI] using hall
   subst hall
   have H3 := Lib.hid (And.intro ho ha)
   clear ho ha htl hpe hkn hk
   go_wp2_with fail
   go_ret
   exact ⟨_, rfl, H3.out.1.lower HW2.out.2.1, HW2.out.1.trans (H3.out.2.z.below HW2.out.2.1 HW2.out.2.2.1)⟩
theorem info5_parts : ∃ i z, Tryz.prog.info? 5 = some i ∧ i.zero = some z ∧ i.size = 1 ∧ i.bytes = 1 ∧ z.cells.size = 1 := ⟨_, .int .u8 0, rfl, rfl, rfl, rfl, rfl⟩
theorem cloneB_any (l : List Nat) (A : Option Addr) (cap : Nat) (w : World) (h : BY w w.heap.size l A cap) (hl : l.length ≤ 100000) :
  Calls Tryz.prog 50 #[.slice A l.length cap] w fun r w' => ∃ v, r = .returned v ∧ OwnB w' w.heap.size l v ∧ Below w.heap.size w w' := by
 have q23 : ∀ (w : World) (a : Option Addr) (n c n' c' : Nat), (binOp .eql 22 (.slice a n c) (.slice none n' c')).run Tryz.prog w = .ok (.bool a.isNone) w := fun w a n c n' c' => Lib.run_eql_slice_nil w _ _ a n c n' c' Tryz.underlying22
 cases A with
 | none =>
  have e : l = [] := by
   cases l with
   | nil => rfl
   | cons x r => obtain ⟨b, o, e, _⟩ := h.r (by simp); cases e
  subst e
  clear h
  go_enter Tryz.func50, Tryz.ntmps50
  go_wp2_with fail
  go_ret
  exact ⟨_, rfl, ⟨rfl, .inl ⟨rfl, rfl⟩⟩, Below.refl _ _⟩
 | some ad =>
  have hc : ∀ j u, (u8C l)[j]? = some u → w.cell? (ad.add j) = some u := by
   intro j u hj
   have hn : l ≠ [] := by rintro rfl; simp [u8C] at hj
   obtain ⟨b, o, e, hb, hcc⟩ := h.r hn
   cases e
   unfold u8C at hj
   rw [List.getElem?_map, Option.map_eq_some_iff] at hj
   obtain ⟨x, hx, rfl⟩ := hj
   rw [Addr.add_lit]
   exact hcc j x hx
  have h1 : ∀ u ∈ u8C l, u.oneCell' = true := by
   intro u hu
   unfold u8C at hu
   obtain ⟨x, _, rfl⟩ := List.mem_map.1 hu
   rfl
  have hln : (u8C l).length = l.length * 1 := by simp [u8C]
  obtain ⟨i0, z0, hi, hz0, hz1, hz2, hz3⟩ := info5_parts
  obtain ⟨n, hn⟩ : ∃ n, l.length = n := ⟨_, rfl⟩
  obtain ⟨news, hnews⟩ : ∃ n, u8C l = n := ⟨_, rfl⟩
  have hOO : ∀ (W : World) (B : Nat) (v : Value), W.ownsRow B 5 1 v n news → OwnB W B l v := fun W B v hv => by
   unfold OwnB
   rw [hn, hnews]
   exact hv
  rw [hnews] at hc h1 hln
  rw [hn] at hl hln ⊢
  have H := Lib.hid (And.intro hc (And.intro h1 (And.intro hln (And.intro hi (And.intro hz0 (And.intro hz1 (And.intro hz2 (And.intro hz3 hOO))))))))
  clear hc h1 hln hi hz0 hz1 hz2 hz3 hn hnews h hOO
  go_enter Tryz.func50, Tryz.ntmps50
  go_wp2_with (first
   | (at_builtin; refine wpList_append_own _ rfl (.tmp 5) (.tmp 6) 22 rfl w.heap.size 5 i0 z0 1 1 Tryz.underlying22 H.out.2.2.2.1 H.out.2.2.2.2.1 H.out.2.2.2.2.2.1 H.out.2.2.2.2.2.2.1 H.out.2.2.2.2.2.2.2.1 (by decide) _ 0 _ rfl (World.ownsRow_made w #[] 0 (Nat.le_refl _) (Nat.zero_le _) (by simp)) ad n cap news rfl ?qc1 ?qc2 ?qc3 ?qc4 ?qc5 ?qc6 ?_)
   | fail)
  case qc1 => exact H.out.2.2.1
  case qc2 => exact fun j u hj => Lib.cell?_alloc_some _ (H.out.1 j u hj)
  case qc3 => exact H.out.2.1
  case qc4 => unfold maxLen; omega
  case qc5 => omega
  case qc6 => simp
  intro v' w1 hown hgrow _
  have hb : Below w.heap.size w w1 := ((Below.refl _ w).alloc (Nat.le_refl _) _).grown hgrow (by simp) (by intro k hk; simp [Value.ownBlock] at hk; omega)
  have HB := Lib.hid (And.intro hb hown)
  clear hb hown hgrow
  go_wp2_with fail
  go_ret
  exact ⟨_, rfl, H.out.2.2.2.2.2.2.2.2 _ _ _ (by simpa using HB.out.2), HB.out.1⟩
theorem cloneI_any (l : List IT) (A : Option Addr) (cap : Nat) (w : World) (h : IsA w w.heap.size l A cap) (hl : l.length ≤ 100000) :
  Calls Tryz.prog 57 #[.slice A l.length cap] w fun r w' => ∃ v, r = .returned v ∧ OwnIt w' w.heap.size l v ∧ Below w.heap.size w w' := by
 have q23 : ∀ (w : World) (a : Option Addr) (n c n' c' : Nat), (binOp .eql 55 (.slice a n c) (.slice none n' c')).run Tryz.prog w = .ok (.bool a.isNone) w := fun w a n c n' c' => Lib.run_eql_slice_nil w _ _ a n c n' c' Tryz.underlying55
 cases A with
 | none =>
  have e : l = [] := by
   cases l with
   | nil => rfl
   | cons x r => obtain ⟨b, o, e, _⟩ := h.r 0 x rfl; cases e
  subst e
  clear h
  go_enter Tryz.func57, Tryz.ntmps57
  go_wp2_with fail
  go_ret
  exact ⟨_, rfl, ⟨rfl, .inl ⟨rfl, rfl⟩⟩, Below.refl _ _⟩
 | some ad =>
  have hc : ∀ j u, (rowI l)[j]? = some u → w.cell? (ad.add j) = some u := by
   intro j u hu
   have hj : j < l.length * 7 := by have := (List.getElem?_eq_some_iff.1 hu).1; rwa [rowI_len] at this
   have hd : j / 7 < l.length := by omega
   obtain ⟨b', o2, e, _, hc⟩ := h.r (j / 7) l[j / 7] (List.getElem?_eq_getElem hd)
   cases e
   have e2 := rowI_at l (j / 7) _ (List.getElem?_eq_getElem hd) (j % 7) (by omega)
   rw [show j / 7 * 7 + j % 7 = j by omega, hu] at e2
   have := hc (j % 7) u e2.symm
   rw [Addr.add_mid, show o2 + j = o2 + (j / 7 * 7 + j % 7) by omega]
   exact this
  have h1 : ∀ u ∈ rowI l, u.oneCell' = true := by
   exact rowI_one l
  have hln : (rowI l).length = l.length * 7 := by exact rowI_len l
  obtain ⟨i0, z0, hi, hz0, hz1, hz2, hz3⟩ := info42_parts
  obtain ⟨n, hn⟩ : ∃ n, l.length = n := ⟨_, rfl⟩
  obtain ⟨news, hnews⟩ : ∃ n, rowI l = n := ⟨_, rfl⟩
  have hOO : ∀ (W : World) (B : Nat) (v : Value), W.ownsRow B 52 7 v n news → OwnIt W B l v := fun W B v hv => by
   unfold OwnIt
   rw [hn, hnews]
   exact hv
  rw [hnews] at hc h1 hln
  rw [hn] at hl hln ⊢
  have H := Lib.hid (And.intro hc (And.intro h1 (And.intro hln (And.intro hi (And.intro hz0 (And.intro hz1 (And.intro hz2 (And.intro hz3 hOO))))))))
  clear hc h1 hln hi hz0 hz1 hz2 hz3 hn hnews h hOO
  go_enter Tryz.func57, Tryz.ntmps57
  go_wp2_with (first
   | (at_builtin; refine wpList_append_own _ rfl (.tmp 5) (.tmp 6) 55 rfl w.heap.size 52 i0 z0 7 32 Tryz.underlying55 H.out.2.2.2.1 H.out.2.2.2.2.1 H.out.2.2.2.2.2.1 H.out.2.2.2.2.2.2.1 H.out.2.2.2.2.2.2.2.1 (by decide) _ 0 _ rfl (World.ownsRow_made w #[] 0 (Nat.le_refl _) (Nat.zero_le _) (by simp)) ad n cap news rfl ?qc1 ?qc2 ?qc3 ?qc4 ?qc5 ?qc6 ?_)
   | fail)
  case qc1 => exact H.out.2.2.1
  case qc2 => exact fun j u hj => Lib.cell?_alloc_some _ (H.out.1 j u hj)
  case qc3 => exact H.out.2.1
  case qc4 => unfold maxLen; omega
  case qc5 => omega
  case qc6 => simp
  intro v' w1 hown hgrow _
  have hb : Below w.heap.size w w1 := ((Below.refl _ w).alloc (Nat.le_refl _) _).grown hgrow (by simp) (by intro k hk; simp [Value.ownBlock] at hk; omega)
  have HB := Lib.hid (And.intro hb hown)
  clear hb hown hgrow
  go_wp2_with fail
  go_ret
  exact ⟨_, rfl, H.out.2.2.2.2.2.2.2.2 _ _ _ (by simpa using HB.out.2), HB.out.1⟩
theorem AW.on {w2 : World} {gn gx : Nat} {s : ES} {W W' : World} (h : AW w2 gn gx s W) (hb : Below W.heap.size W W') : AW w2 gn gx s W' := ⟨h.ok, Cells.on h.n hb, h.x.on hb, h.z.trans (Fz.of_below hb)⟩
theorem isA_cells {w : World} {B : Nat} {l : List IT} {A : Option Addr} {c : Nat} (h : IsA w B l A c) {i : Nat} {x : IT} (hx : l[i]? = some x) : ∃ b o, A = some ⟨b, o, none⟩ ∧ b < B ∧
  w.cell? ⟨b, o + i * 7, none⟩ = some (.int .i32 x.r) ∧ w.cell? ⟨b, o + i * 7 + 1, none⟩ = some (.int .i64 x.at_) ∧ w.cell? ⟨b, o + i * 7 + 2, none⟩ = some (.int .i64 x.sz) ∧ w.cell? ⟨b, o + i * 7 + 3, none⟩ = some (.bool x.f) ∧
  w.cell? ⟨b, o + i * 7 + 4, none⟩ = some (.bool x.x) ∧ w.cell? ⟨b, o + i * 7 + 5, none⟩ = some (.bool x.n) ∧ w.cell? ⟨b, o + i * 7 + 6, none⟩ = some (.bool x.p) := by
 obtain ⟨b, o, e, h1, h2⟩ := h.r i x hx
 simp only [← Nat.add_assoc] at h2
 exact ⟨b, o, e, h1, h2 0 _ rfl, h2 1 _ rfl, h2 2 _ rfl, h2 3 _ rfl, h2 4 _ rfl, h2 5 _ rfl, h2 6 _ rfl⟩
theorem by_lit (w : World) (l : List Nat) (fr : Nat × Nat) (hl : ∀ x ∈ l, x < 256) (hn : l.length ≤ 100) : BY (w.alloc (.cells (u8C l).toArray 5 fr)) (w.alloc (.cells (u8C l).toArray 5 fr)).heap.size l (some ⟨w.heap.size, 0, none⟩) l.length :=
 ⟨Nat.le_refl _, by unfold maxLen; omega, fun e => (by cases e), hl, fun _ => ⟨w.heap.size, 0, rfl, by simp, fun i x hx => by
  rw [Nat.zero_add, World.cell?_alloc_mark w _ _ _ _]
  simp [u8C, hx]⟩⟩
def rise : Int → List IT → Int → Prop
 | e, [], E => e ≤ E
 | e, x :: r, E => e ≤ x.at_ ∧ 1 ≤ x.sz ∧ rise (x.at_ + x.sz) r E
theorem rise_mono : ∀ (l : List IT) (e k E : Int), e ≤ k → rise k l E → rise e l E
 | [], _e, _k, _E, h, h2 => Int.le_trans h h2
 | _x :: _r, _e, _k, _E, h, h2 => ⟨Int.le_trans h h2.1, h2.2⟩
theorem rise_app : ∀ (l m : List IT) (e k E : Int), rise e l k → rise k m E → rise e (l ++ m) E
 | [], m, e, k, E, h, h2 => rise_mono m e k E h h2
 | _x :: r, m, _e, k, E, h, h2 => ⟨h.1, h.2.1, rise_app r m _ k E h.2.2 h2⟩
theorem rise_le : ∀ (l : List IT) (e E : Int), rise e l E → e ≤ E
 | [], e, E, h => h
 | x :: r, e, E, h => by
  have := rise_le r _ E h.2.2
  have h1 := h.1
  have h2 := h.2.1
  omega
theorem rise_len : ∀ (l : List IT) (e E : Int), rise e l E → e + (l.length : Int) ≤ E
 | [], e, E, h => by
  have h : e ≤ E := h
  simpa using h
 | x :: r, e, E, h => by
  have := rise_len r _ E h.2.2
  have h1 := h.1
  have h2 := h.2.1
  simp only [List.length_cons]
  omega
def within (t : TK) (x : IT) : Prop := (t.fr : Int) ≤ x.at_ ∧ x.at_ < (t.to : Int) ∧ x.at_ + x.sz ≤ (t.to : Int) ∧ (t.kind = 0 ∨ (t.kind = 1 ∧ x.at_ = (t.fr : Int) ∧ x.at_ + x.sz = (t.to : Int)))
theorem text_rise (n : Nat) (f : Nat → Nat) (fr : Nat) (nb pb : Bool) : ∀ (d k : Nat) (fo x : Bool), k ≤ n → rise ((fr : Int) + (k : Int)) (textF n f fr nb pb d k fo x) ((fr : Int) + (n : Int))
 | 0, k, fo, x, h => by
  show (fr : Int) + (k : Int) ≤ _
  omega
 | d + 1, k, fo, x, h => by
  unfold textF
  by_cases hk : k < n
  ·have hs := nxS_size n f k hk
   rw [if_pos hk]
   refine ⟨Int.le_refl _, by show (1 : Int) ≤ ((nxS n f k).2.1 : Int); omega, ?_⟩
   have := text_rise n f fr nb pb d (k + (nxS n f k).2.1) false false (by omega)
   rw [Int.natCast_add, ← Int.add_assoc] at this
   exact this
  ·rw [if_neg hk]
   show (fr : Int) + (k : Int) ≤ _
   omega
theorem items_rise (s : ES) (B : Nat → Nat) (t : TK) (h : t.fr < t.to) : rise (t.fr : Int) (s.items B t) (t.to : Int) := by
 unfold ES.items tkI
 split
 ·show (t.fr : Int) ≤ _
  omega
 ·split
  ·have := text_rise (t.to - t.fr) (fun j => B (t.fr + j)) t.fr (decide (0 < (s.cs t).n)) (decide (0 < (s.cs t).p)) (t.to - t.fr) 0 (s.fs t) (s.xs t) (Nat.zero_le _)
   rw [show (t.fr : Int) + ((0 : Nat) : Int) = (t.fr : Int) by omega, show (t.fr : Int) + ((t.to - t.fr : Nat) : Int) = (t.to : Int) by omega] at this
   exact this
  ·split
   ·refine ⟨Int.le_refl _, by show (1 : Int) ≤ (t.to : Int) - (t.fr : Int); omega, ?_⟩
    show (t.fr : Int) + ((t.to : Int) - (t.fr : Int)) ≤ _
    omega
   ·show (t.fr : Int) ≤ _
    omega
theorem all_rise (B : Nat → Nat) : ∀ (l : List TK) (s : ES) (e E : Nat), tiles e l E → rise (e : Int) (allI B s l) (E : Int)
 | [], s, e, E, h => by
  simp [tiles] at h
  show (e : Int) ≤ _
  omega
 | t :: r, s, e, E, h => by
  have h1 := items_rise s B t (by rw [h.1]; exact h.2.1)
  rw [h.1] at h1
  exact rise_app _ _ _ _ _ h1 (all_rise B r (s.turn t) t.to E h.2.2)
end Go.Proofs.YtfafhbgkmlmmdaaGreatDoor.K
namespace Go.Proofs.YtfafhbgkmlmmdaaGreatDoor.K
open Go.RowKit Go.Shelf Go.Lib Go.Maps
theorem rise_mem : ∀ (l : List IT) (e E : Int), rise e l E → ∀ (i : Nat) (x : IT), l[i]? = some x → e + (i : Int) ≤ x.at_ ∧ x.at_ < E
 | [], e, E, h, i, x, hx => by simp at hx
 | y :: r, e, E, h, 0, x, hx => by
  simp at hx
  subst hx
  have h1 := h.1
  have h2 := h.2.1
  have h3 := rise_le r _ E h.2.2
  omega
 | y :: r, e, E, h, i + 1, x, hx => by
  have ih := rise_mem r _ E h.2.2 i x (by simpa using hx)
  have h1 := h.1
  have h2 := h.2.1
  omega
theorem rise_lt : ∀ (l : List IT) (e E : Int), rise e l E → ∀ (i j : Nat) (x y : IT), i < j → l[i]? = some x → l[j]? = some y → x.at_ < y.at_
 | [], e, E, h, i, j, x, y, hij, hx, hy => by simp at hx
 | _ :: _, _, _, _, _, 0, _, _, hij, _, _ => absurd hij (Nat.not_lt_zero _)
 | z :: r, e, E, h, 0, j + 1, x, y, hij, hx, hy => by
  simp at hx
  subst hx
  have ih := rise_mem r _ E h.2.2 j y (by simpa using hy)
  have h2 := h.2.1
  omega
 | z :: r, e, E, h, i + 1, j + 1, x, y, hij, hx, hy => rise_lt r _ E h.2.2 i j x y (by omega) (by simpa using hx) (by simpa using hy)
def rawR (l : List IT) (E i : Nat) : Int := if i = 0 then 0 else if i = l.length then (E : Int) else (l[i]?).elim 0 (·.at_)
theorem raw_zero (l : List IT) (E : Nat) : rawR l E 0 = 0 := rfl
theorem raw_end {l : List IT} (E : Nat) (h : l.length ≠ 0) : rawR l E l.length = (E : Int) := by
 unfold rawR
 rw [if_neg h, if_pos rfl]
theorem raw_at {l : List IT} (E : Nat) {i : Nat} {x : IT} (h : l[i]? = some x) (h0 : i ≠ 0) : rawR l E i = x.at_ := by
 have hi := (List.getElem?_eq_some_iff.1 h).1
 unfold rawR
 rw [if_neg h0, if_neg (by omega), h]
 rfl
theorem raw_lt {l : List IT} {E : Nat} (h : rise 0 l (E : Int)) {i j : Nat} (hij : i < j) (hj : j ≤ l.length) : rawR l E i < rawR l E j := by
 have hl := rise_len l _ _ h
 by_cases hjl : j = l.length
 ·subst hjl
  rw [raw_end E (by omega)]
  by_cases hi : i = 0
  ·subst hi
   rw [raw_zero]
   omega
  ·obtain ⟨x, hx⟩ : ∃ x, l[i]? = some x := ⟨_, List.getElem?_eq_getElem hij⟩
   rw [raw_at E hx hi]
   exact (rise_mem l _ _ h i x hx).2
 ·obtain ⟨y, hy⟩ : ∃ y, l[j]? = some y := ⟨_, List.getElem?_eq_getElem (by omega)⟩
  rw [raw_at E hy (by omega)]
  by_cases hi : i = 0
  ·subst hi
   rw [raw_zero]
   have := (rise_mem l _ _ h j y hy).1
   omega
  ·obtain ⟨x, hx⟩ : ∃ x, l[i]? = some x := ⟨_, List.getElem?_eq_getElem (by omega)⟩
   rw [raw_at E hx hi]
   exact rise_lt l _ _ h i j x y hij hx hy
theorem raw_le {l : List IT} {E : Nat} (h : rise 0 l (E : Int)) {i j : Nat} (hij : i ≤ j) (hj : j ≤ l.length) : rawR l E i ≤ rawR l E j := by
 by_cases e : i = j
 ·subst e
  exact Int.le_refl _
 ·exact Int.le_of_lt (raw_lt h (by omega) hj)
def cntR (l : List IT) (E at_ : Nat) : Nat := (List.range l.length).countP (fun i => !decide ((at_ : Int) ≤ rawR l E (i + 1)))
theorem cnt_mono {l : List IT} {E : Nat} (h : rise 0 l (E : Int)) (a : Nat) : ∀ i j, i ≤ j → j < l.length → decide ((a : Int) ≤ rawR l E (i + 1)) = true → decide ((a : Int) ≤ rawR l E (j + 1)) = true := fun i j hij hj hp => by
 have h1 := raw_le h (i := i + 1) (j := j + 1) (by omega) (by omega)
 simp only [decide_eq_true_eq] at hp ⊢
 omega
theorem cnt_le (l : List IT) (E a : Nat) : cntR l E a ≤ l.length := by
 unfold cntR
 refine Nat.le_trans List.countP_le_length ?_
 simp
def plainR (l : List IT) (E a : Nat) : Nat := if a = 0 ∨ l.length = 0 then 0 else 1 + cntR l E a
end Go.Proofs.YtfafhbgkmlmmdaaGreatDoor.K
namespace Go.Proofs.YtfafhbgkmlmmdaaGreatDoor.K
open Go.RowKit Go.Shelf Go.Lib Go.Maps
attribute [local irreducible] nmL ofN
structure FL (w : World) (B g : Nat) (xs : List Nat) (l : List IT) : Prop where
 gB : g < B
 c : ∃ A cap A2 c2, w.cell? ⟨g, 0, none⟩ = some (.slice A xs.length cap) ∧ w.cell? ⟨g, 1, none⟩ = some (.slice A2 l.length c2) ∧ BY w B xs A cap ∧ IsA w B l A2 c2
 k : ∃ A cap, w.cell? ⟨g, 0, none⟩ = some (.slice A xs.length cap) ∧ ((A = none ∧ cap = 0) ∨ ∃ b o, A = some ⟨b, o, none⟩)
theorem FL.below {w w' : World} {B g : Nat} {xs : List Nat} {l : List IT} (h : FL w B g xs l) (hb : Below B w w') : FL w' B g xs l := by
 obtain ⟨A, cap, A2, c2, h1, h2, h3, h4⟩ := h.c
 obtain ⟨A', cap', k1, k2⟩ := h.k
 exact ⟨h.gB, ⟨A, cap, A2, c2, (hb.cell (p := ⟨g, 0, none⟩) h.gB).trans h1, (hb.cell (p := ⟨g, 1, none⟩) h.gB).trans h2, h3.below hb, h4.below hb⟩, A', cap', (hb.cell (p := ⟨g, 0, none⟩) h.gB).trans k1, k2⟩
theorem FL.mono {w : World} {B B' g : Nat} {xs : List Nat} {l : List IT} (h : FL w B g xs l) (hB : B ≤ B') : FL w B' g xs l := by
 obtain ⟨A, cap, A2, c2, h1, h2, h3, h4⟩ := h.c
 exact ⟨Nat.lt_of_lt_of_le h.gB hB, ⟨A, cap, A2, c2, h1, h2, h3.mono hB, h4.mono hB⟩, h.k⟩
theorem FL.on {w w' : World} {g : Nat} {xs : List Nat} {l : List IT} (h : FL w w.heap.size g xs l) (hb : Below w.heap.size w w') : FL w' w'.heap.size g xs l := (h.below hb).mono hb.size
theorem fnew_any (xs : List Nat) (A : Option Addr) (cap : Nat) (w : World) (hb : BY w w.heap.size xs A cap) (hl : xs.length ≤ 100000) (hM : G.MX w) (hT : S.Tabs w) :
  Calls Tryz.prog 25 #[.slice A xs.length cap] w fun e w' => ∃ g, e = .returned (.pointer (some ⟨g, 0, none⟩)) ∧ FL w' w'.heap.size g xs (allI (bF xs) es0 (eachL xs)) ∧ Below w.heap.size w w' := by
 have C1 := cloneB_any xs A cap w hb hl
 have C2 := fun W (h : Below w.heap.size w W) => xall_any xs A cap W (hb.on h) hl (hM.on hM.pos h) (hT.below h (by have := hT.2; omega))
 have hi := hb.i
 obtain ⟨ALL, hALL⟩ : ∃ q, allI (bF xs) es0 (eachL xs) = q := ⟨_, rfl⟩
 simp only [hALL] at C2 ⊢
 obtain ⟨N, hN⟩ : ∃ q, xs.length = q := ⟨_, rfl⟩
 simp only [hN] at C1 C2 ⊢
 have HH := Lib.hid (And.intro C2 (And.intro hi hN))
 clear C2 hi hN hALL hl hM hT hb
 go_enter Tryz.func25, Tryz.ntmps25
 go_wp2_with fail
 refine C1.mono ?_
 rintro e w1 ⟨v1, rfl, o1, b1⟩
 have C2 := HH.out.1 w1 b1
 have hk1 : ∃ A1 c1, v1 = .slice A1 xs.length c1 ∧ ((A1 = none ∧ c1 = 0) ∨ ∃ b o, A1 = some ⟨b, o, none⟩) := by
  rcases o1.2 with ⟨e1, e2⟩ | ⟨g, cap, cur, e1, _⟩
  ·exact ⟨none, 0, by rw [e1, e2], .inl ⟨rfl, rfl⟩⟩
  ·exact ⟨_, cap, e1, .inr ⟨g, 0, rfl⟩⟩
 obtain ⟨A1, c1, rfl, y1⟩ := OwnB.by o1 HH.out.2.1
 have hk2 : (A1 = none ∧ c1 = 0) ∨ ∃ b o, A1 = some ⟨b, o, none⟩ := by
  obtain ⟨A', c', e', h'⟩ := hk1
  cases e'
  exact h'
 rw [HH.out.2.2]
 have HK := Lib.hid hk2
 have H1 := Lib.hid (And.intro y1 b1)
 clear C1 o1 y1 b1 hk1 hk2
 go_wp2_with fail
 refine C2.mono ?_
 rintro e w2 ⟨v2, rfl, o2, b2⟩
 obtain ⟨A2, c2, rfl, y2⟩ := IsA.of_own o2
 have y1 := H1.out.1.on b2
 have b12 := H1.out.2.trans (b2.mono H1.out.2.size)
 have H2 := Lib.hid (And.intro y1 (And.intro y2 (And.intro b12 HH.out.2.2)))
 clear C2 o2 y1 y2 b2 b12
 go_wp2_with fail
 go_ret
 have b3 := below_new w2 (.cells #[.slice A1 N c1, .slice A2 ALL.length c2] 95)
 have t3 := cells_new w2 #[.slice A1 N c1, .slice A2 ALL.length c2] 95
 have t0 : (w2.alloc (.cells #[.slice A1 N c1, .slice A2 ALL.length c2] 95)).cell? ⟨w2.heap.size, 0, none⟩ = some (.slice A1 xs.length c1) := by
  rw [H2.out.2.2.2]
  exact t3.cell 0
 refine ⟨w2.heap.size, rfl, ⟨?_, ⟨A1, c1, A2, c2, t0, ?_, ?_, ?_⟩, A1, c1, t0, HK.out⟩, H2.out.2.2.1.trans (b3.mono H2.out.2.2.1.size)⟩
 ·simp
 ·exact t3.cell 1
 ·exact H2.out.1.on b3
 ·exact H2.out.2.1.on b3
theorem flen_any (g : Nat) (xs : List Nat) (l : List IT) (w : World) (h : FL w w.heap.size g xs l) :
  Calls Tryz.prog 30 #[.pointer (some ⟨g, 0, none⟩)] w fun e w' => e = .returned (.int .i64 (l.length : Int)) ∧ w' = w := by
 obtain ⟨A, cap, A2, c2, h1, h2, _, _⟩ := h.c
 clear h h1
 go_enter Tryz.func30, Tryz.ntmps30
 go_wp2_with fail
 go_ret
 exact ⟨rfl, rfl⟩
theorem raw_any (g : Nat) (xs : List Nat) (l : List IT) (w : World) (h : FL w w.heap.size g xs l) (_hl : l.length ≤ 100000) (i : Nat) (hi : i ≤ l.length) :
  Calls Tryz.prog 58 #[.pointer (some ⟨g, 0, none⟩), .int .i64 (i : Int)] w fun e w' => e = .returned (.int .i64 (rawR l xs.length i)) ∧ w' = w := by
 obtain ⟨A, cap, A2, c2, h1, h2, _, h4⟩ := h.c
 obtain ⟨R, hR⟩ : ∃ q, rawR l xs.length i = q := ⟨_, rfl⟩
 rw [hR]
 by_cases h0 : i = 0
 ·subst h0
  rw [raw_zero] at hR
  subst hR
  clear h h1 h2 h4
  go_enter Tryz.func58, Tryz.ntmps58
  go_wp2_with fail
  go_ret
  exact ⟨rfl, rfl⟩
 have d0 : ((i : Int) == 0) = false := by rw [beq_eq_false_iff_ne]; omega
 by_cases he : i = l.length
 ·have hz : l.length ≠ 0 := by omega
  rw [he, raw_end _ hz] at hR
  subst hR
  obtain ⟨n, hn⟩ : ∃ q, l.length = q := ⟨_, rfl⟩
  rw [hn] at h2 he
  subst he
  have d1 : ((i : Int) == (i : Int)) = true := by simp
  clear h h4 hn _hl hi hz h0
  go_enter Tryz.func58, Tryz.ntmps58
  go_wp2_with fail
  go_ret
  exact ⟨rfl, rfl⟩
 ·obtain ⟨x, hx⟩ : ∃ x, l[i]? = some x := ⟨_, List.getElem?_eq_getElem (by omega)⟩
  rw [raw_at _ hx h0] at hR
  subst hR
  have hle := h4.le
  obtain ⟨b, o, rfl, hbb, _, a1, _⟩ := isA_cells h4 hx
  obtain ⟨n, hn⟩ : ∃ q, l.length = q := ⟨_, rfl⟩
  rw [hn] at h2 he hi hle
  have d1 : ((i : Int) == (n : Int)) = false := by rw [beq_eq_false_iff_ne]; omega
  have i1 : (i : Int) < (n : Int) := by omega
  have a1' : w.cell? ⟨b, o + (i * 7 + 1), none⟩ = some (.int .i64 x.at_) := by rw [← Nat.add_assoc]; exact a1
  clear h h1 h4 hx hn h0
  go_enter Tryz.func58, Tryz.ntmps58
  go_wp2_with fail
  go_ret
  exact ⟨rfl, rfl⟩
theorem Raw_any (g : Nat) (xs : List Nat) (l : List IT) (w : World) (h : FL w w.heap.size g xs l) (hl : l.length ≤ 100000) (a : Int) :
  Calls Tryz.prog 34 #[.pointer (some ⟨g, 0, none⟩), .int .i64 a] w fun e w' => e = .returned (.tuple #[.int .i64 (if 0 ≤ a ∧ a ≤ (l.length : Int) then rawR l xs.length a.toNat else 0), .bool (decide (0 ≤ a ∧ a ≤ (l.length : Int)))]) ∧ w' = w := by
 obtain ⟨A, cap, A2, c2, h1, h2, _, _⟩ := h.c
 by_cases h0 : a < 0
 ·rw [if_neg (by omega), decide_eq_false (by omega)]
  clear h h1 h2 hl
  go_enter Tryz.func34, Tryz.ntmps34
  go_wp2_with fail
  refine bodyPost_ret (v := .tuple #[.int .i64 0, .bool false]) (by simp [results, Tryz.results34, go_sem]) rfl ⟨rfl, rfl⟩
 by_cases he : (l.length : Int) < a
 ·rw [if_neg (by omega), decide_eq_false (by omega)]
  obtain ⟨n, hn⟩ : ∃ q, l.length = q := ⟨_, rfl⟩
  rw [hn] at h2 he
  clear h h1 hl hn
  go_enter Tryz.func34, Tryz.ntmps34
  go_wp2_with fail
  refine bodyPost_ret (v := .tuple #[.int .i64 0, .bool false]) (by simp [results, Tryz.results34, go_sem]) rfl ⟨rfl, rfl⟩
 ·rw [if_pos (by omega), decide_eq_true (by omega)]
  obtain ⟨i, rfl⟩ : ∃ i : Nat, a = (i : Int) := ⟨a.toNat, by omega⟩
  have C := raw_any g xs l w h hl i (by omega)
  rw [show ((i : Int)).toNat = i from by omega]
  obtain ⟨R, hR⟩ : ∃ q, rawR l xs.length i = q := ⟨_, rfl⟩
  obtain ⟨n, hn⟩ : ∃ q, l.length = q := ⟨_, rfl⟩
  rw [hn] at h2 he
  rw [hR] at C ⊢
  clear h h1 hl hn hR
  go_enter Tryz.func34, Tryz.ntmps34
  go_wp2_with fail
  refine C.mono ?_
  rintro e _ ⟨rfl, rfl⟩
  clear C
  go_wp2_with fail
  refine bodyPost_ret (v := .tuple #[.int .i64 R, .bool true]) (by simp [results, Tryz.results34, go_sem]) rfl ⟨rfl, rfl⟩
theorem putN_zb (r : Int) (j : Nat) : zb (encodeRuneZ r) j = (putN r).getD j 0 := by
 unfold zb putN
 rw [List.getD_eq_getElem?_getD, List.getD_eq_getElem?_getD, List.getElem?_map]
 cases (encodeRuneZ r)[j]? <;> rfl
def putL (l : List Int) : List Nat := l.flatMap putN
end Go.Proofs.YtfafhbgkmlmmdaaGreatDoor.K
