/-
  Contract: token.All.
  Tokens as they lie; what stands side by side.
  Contract: token.Kind.
  Contracts: strconv.FormatInt at base 16.
  The shelf's contract of strings.Repeat at this dump: the table of numbers and one theorem, a field a fact of the dump's own or the kernel's comparison.
  Contracts: strconv.FormatInt at base 16, strings.Repeat of one zero, ranges.printHex; the document's hex.
  Contract: scalar.Print.
  Contract: token.Print.
  The document's example, cut.
  awake: the document's example.
  From what the rows list and from the world's shape to what the contracts ask; arguments.
-/
import Derived.Test.YtnedjafpjbfncaaGreatDoorXqi
import Derived.Deep.AppendLies
import Derived.Test.YtnedjafpjbfncaaGreatDoorXqg
import Derived.Laws.BitsAllLaws
import Derived.Laws.IdiomStrings
import Derived.Test.YtnedjafpjbfncaaGreatDoorXqe
import Derived.Shelf.Strings.Repeat
import Derived.Ground.NamesProg
import Derived.Test.YtnedjafpjbfncaaGreatDoorProg
import Derived.Test.YtnedjafpjbfncaaGreatDoorXqb
import Derived.Lib.QuietBelow
import Derived.BigQuiet
import Derived.Lib.ItoaNum
import Derived.Lib.SmallJoins
import Derived.PinnedBridge
import Derived.Lib.LaidU8
import Derived.ProofKit
import Derived.OpenShut
import Derived.Deep.SlicePairs
import Derived.Shelf.Vars
import Derived.Handed
import Derived.Lib.LaidTab
import Derived.Lib.TrailingZeros
import Derived.Test.YtnedjafpjbfncaaGreatDoorRows
namespace Go.Proofs.YtnedjafpjbfncaaGreatDoor
open Go.RowKit Go.Shelf Go.Lib Go.Maps Go.Great
attribute [local go_sem] Oper.semAt_some
attribute [local irreducible] NR ZNR FR nmE

/-- Tokens one behind another, from a place up to a place. -/
def tiles : Nat → List TK → Nat → Prop
  | e, [], E => e = E
  | e, t :: r, E => t.fr = e ∧ e < t.to ∧ tiles t.to r E
theorem tiles_len : ∀ (l : List TK) (e E : Nat), tiles e l E → e + l.length ≤ E
  | [], e, E, h => by simp [tiles] at h; simp [h]
  | t :: r, e, E, h => by
    have := tiles_len r t.to E h.2.2
    have := h.2.1
    simp only [List.length_cons]
    omega
theorem tiles_txs {a b : Nat} (h : a ≤ b) {l : List TK} {E : Nat} (hl : tiles b l E) : tiles a (txs a b ++ l) E := by
  unfold txs
  split
  · rename_i h1
    exact ⟨rfl, h1, hl⟩
  · obtain rfl : a = b := by omega
    exact hl
theorem tiles_out {xs : List Nat} : ∀ (d k e : Nat), xs.length - k = d → e ≤ k → k ≤ xs.length → tiles e (outF e (marksL xs k) ++ txs (endF e (marksL xs k)) xs.length) xs.length := by
  intro d
  induction d using Nat.strongRecOn with
  | _ d ih =>
    intro k e hd he hk
    by_cases h : k < xs.length
    case neg =>
      rw [marksL_end h]
      show tiles e (txs e xs.length) xs.length
      have := tiles_txs (a := e) (b := xs.length) (by omega) (l := []) (E := xs.length) rfl
      rw [List.append_nil] at this
      exact this
    case pos =>
      cases hm : markT xs k with
      | none =>
        rw [marksL_none h hm]
        exact ih (xs.length - (k + 1)) (by omega) (k + 1) e rfl (by omega) (by omega)
      | some t =>
        rw [marksL_some h hm]
        have h1 := mark_to (by omega) hm
        have h2 := rawT_le (xs := xs) (x := t) h1.2.2.1
        show tiles e ((txs e t.fr ++ (t :: outF t.to (rawTok xs t ++ marksL xs (rawT xs t)))) ++ txs (endF t.to (rawTok xs t ++ marksL xs (rawT xs t))) xs.length) xs.length
        rw [List.append_assoc, h1.1]
        refine tiles_txs he ⟨h1.1, h1.2.1, ?_⟩
        show tiles t.to (outF t.to (rawTok xs t ++ marksL xs (rawT xs t)) ++ txs (endF t.to (rawTok xs t ++ marksL xs (rawT xs t))) xs.length) xs.length
        by_cases hr : t.to < rawT xs t
        · have e1 : rawTok xs t = [⟨7, t.to, rawT xs t, [], 0, false⟩] := by unfold rawTok; rw [if_pos hr]
          rw [e1]
          have := ih (xs.length - rawT xs t) (by omega) (rawT xs t) (rawT xs t) rfl (Nat.le_refl _) h2.2
          have e2 : txs t.to t.to = [] := by unfold txs; rw [if_neg (Nat.lt_irrefl _)]
          show tiles t.to ((txs t.to t.to ++ (⟨7, t.to, rawT xs t, [], 0, false⟩ :: outF (rawT xs t) (marksL xs (rawT xs t)))) ++ txs (endF (rawT xs t) (marksL xs (rawT xs t))) xs.length) xs.length
          rw [e2]
          exact ⟨rfl, hr, this⟩
        · have e1 : rawTok xs t = [] := by unfold rawTok; rw [if_neg hr]
          rw [e1]
          exact ih (xs.length - rawT xs t) (by omega) (rawT xs t) t.to rfl (by omega) h2.2
theorem eachL_tiles (xs : List Nat) : tiles 0 (eachL xs) xs.length := tiles_out (xs := xs) _ 0 0 rfl (Nat.le_refl _) (Nat.zero_le _)
theorem eachL_len (xs : List Nat) : (eachL xs).length ≤ xs.length := by
  have := tiles_len _ _ _ (eachL_tiles xs)
  omega
/-- The row of the tokens. -/
def rowC : List TK → List Value
  | [] => []
  | x :: r => (tokC x).toList ++ rowC r
theorem rowC_snoc (x : TK) : ∀ l : List TK, rowC (l ++ [x]) = rowC l ++ (tokC x).toList
  | [] => by simp [rowC]
  | t :: r => by
    show (tokC t).toList ++ rowC (r ++ [x]) = ((tokC t).toList ++ rowC r) ++ _
    rw [rowC_snoc x r]
    simp
def OwnT (w : World) (base : Nat) (l : List TK) (v : Value) : Prop := w.ownsRow base 30 6 v l.length (rowC l)
theorem OwnT.below {w w' : World} {base : Nat} {l : List TK} {v : Value} (h : OwnT w base l v) (hb : Below w.heap.size w w') : OwnT w' base l v := ownsRow_below h hb
theorem info30 : (Tryz.prog.info? 30).map (fun i => (i.zero.map (fun z => z.cells.size), i.size, i.bytes)) = some (some 6, 6, 48) := by kernel_rfl
theorem info30_parts : ∃ i z, Tryz.prog.info? 30 = some i ∧ i.zero = some z ∧ i.size = 6 ∧ i.bytes = 48 ∧ z.cells.size = 6 := by
  have h := info30
  cases e : Tryz.prog.info? 30 with
  | none => rw [e] at h; simp at h
  | some i =>
    rw [e] at h
    cases e2 : i.zero with
    | none => simp [e2] at h
    | some z =>
      simp [e2] at h
      exact ⟨i, z, rfl, e2, h.2.1, h.2.2, h.1⟩
theorem wpListIn_append_lies {F : Fence} {n' : Nat} {P : Program} {w : World} {ops : Array Oper} {rest : List Oper} {o : Oper} {a : Act} {Q : Exit → Act → World → Prop} (hgd : o.guard = none) (s x : Operand) (t : TypeId)
    (ho : o.op = .call { callee := .builtin .append, args := #[s, x], argTypes := #[t, t] })
    (base : Nat) (e : TypeId) (i : TypeInfo) (z : Value) (size bytes : Nat) (ht : P.underlying t = some (.slice e)) (hi : P.info? e = some i) (hz : i.zero = some z)
    (hsize : i.size = size) (hby : i.bytes = bytes) (hzs : z.cells.size = size) (hsz : 0 < size)
    (v : Value) (n : Nat) (xs : List Value) (hs : a.eval s = v) (hown : w.ownsRow base e size v n xs)
    (ad : Addr) (m c : Nat) (news : List Value) (hx : a.eval x = .slice (some ad) m c) (hl : news.length = m * size) (hnews : ∀ j u, news[j]? = some u → w.cell? (ad.add j) = some u) (h1 : ∀ u ∈ news, u.oneCell' = true)
    (hm : 0 < m) (h63 : n + m ≤ maxLen) (hbytes : (n + m) * bytes ≤ 140737488355328) (hbase : base ≤ w.heap.size) (H : Nat) (hH : w.heap.size = H)
    (h : ∀ g cap w', w'.ownsRow base e size (.slice (some ⟨g, 0, none⟩) (n + m) cap) (n + m) (xs ++ news) → w.grownBy w' v.ownBlock → (v.ownBlock = some g ∨ g = H) → g < w'.heap.size → wpListIn F n' P ops Q rest (a.put o.dst (.slice (some ⟨g, 0, none⟩) (n + m) cap)) w') :
    wpListIn F n' P ops Q (o :: rest) a w := by
  refine wpListIn_plain hgd fun K hK' => ?_
  obtain ⟨g, cap, w', hr, h2, h3, h4, h5⟩ := run_append_lies (P := P) w t o.type base e i z size bytes ht hi hz hsize hby hzs hsz v n xs hown ad m c news hl hnews h1 hm h63 hbytes hbase H hH
  unfold Oper.wpIn
  refine ⟨?_, ?_⟩
  · simp [Oper.about, ho, resolve, Target.leads, Sem.run_pure]
  · rw [Oper.semAt_plain F _ _ (by rw [ho]; intro c hc'; cases hc')]
    simp [execOp, ho, resolve, invoke, builtin, hs, hx, hr, Result.andThen]
    exact hK' _ _ (h g cap w' h2 h3 h4 h5)
theorem ownsRow_same {w w' : World} {B e z n : Nat} {v : Value} {xs : List Value} (h : w.ownsRow B e z v n xs) (hk : ∀ k, v.ownBlock = some k → w'.heap[k]? = w.heap[k]?) : w'.ownsRow B e z v n xs := by
  refine ⟨h.1, ?_⟩
  rcases h.2 with h2 | ⟨g, cap, cur, rfl, hb, hh, h5, h6, h7, h8⟩
  · exact .inl h2
  · exact .inr ⟨g, cap, cur, rfl, hb, (hk g rfl).trans hh, h5, h6, h7, h8⟩
theorem Fr.grown {X : Nat → Prop} {ob : Option Nat} {g : Nat} {W W' : World} (h : W.grownBy W' ob) (h' : ob = some g ∨ g = W.heap.size) (hlt : g < W'.heap.size) : Fr X ob (some g) W W' :=
  ⟨h.os, h.tape, h.output, h.size, fun k hk _ ho => h.block k hk (fun e => ho e.symm), by
    rcases h' with e | e
    · exact .inl e.symm
    · exact .inr ⟨g, rfl, by omega, hlt⟩⟩
set_option maxHeartbeats 8000000 in
set_option maxRecDepth 100000 in
theorem All_any (xs : List Nat) (A : Option Addr) (cap : Nat) (w : World) (hx : BY w w.heap.size xs A cap) (hl : xs.length ≤ 100000) (hM : G.MX w) (hT : S.Tabs w) :
    Calls Tryz.prog 9 #[.slice A xs.length cap] w fun e w' => ∃ v, e = .returned v ∧ OwnT w' w.heap.size (eachL xs) v ∧ Below w.heap.size w w' := by
  refine (callsIn_wide (n := 10)).1 ?_
  obtain ⟨W1, hW1⟩ : ∃ V, w.alloc (.cells #[.slice none 0 0] 24) = V := ⟨_, rfl⟩
  have b1 : Below w.heap.size w W1 := by rw [← hW1]; exact below_new w _
  have s1 : W1.heap.size = w.heap.size + 1 := by rw [← hW1]; simp
  have o1 : Cells W1 w.heap.size 24 #[.slice none 0 0] := by rw [← hW1]; exact cells_new _ _ _
  obtain ⟨W2, hW2⟩ : ∃ V, W1.alloc (.cells #[.slice A xs.length cap] 22) = V := ⟨_, rfl⟩
  have b12 : Below W1.heap.size W1 W2 := by rw [← hW2]; exact below_new W1 _
  have s2 : W2.heap.size = w.heap.size + 2 := by rw [← hW2]; simp [s1]
  have c2 : Cells W2 (w.heap.size + 1) 22 #[.slice A xs.length cap] := by rw [← s1, ← hW2]; exact cells_new _ _ _
  have o2 := o1.on b12
  have b2 : Below w.heap.size w W2 := b1.trans (b12.mono (by omega))
  have HE := each_hands 8 (by omega) xs A cap (w.heap.size + 1) w.heap.size (fun k => k = w.heap.size) W2 (hx.below b2) hl (hM.on (B := w.heap.size) hM.pos b2) (hT.below b2 (by have := hT.2; omega)) (by have := hT.2; omega) c2 (by omega) (fun k hk => by omega)
  have hcl := hx.l
  have hlen := eachL_len xs
  obtain ⟨N, hN⟩ : ∃ N, xs.length = N := ⟨_, rfl⟩
  rw [hN] at hl hlen hcl
  rw [hN] at hW2 c2
  rw [hN]
  obtain ⟨L, hL⟩ : ∃ L, eachL xs = L := ⟨_, rfl⟩
  rw [hL] at HE hlen
  rw [hL]
  have fa := o1.froz 0
  have q1 := o1.cell 0
  have q2 := o2.cell 0
  simp at q1 q2
  refine callsIn_of_wp_marks Tryz.func9 rfl trivial ?_ rfl
  simp only [Tryz.ntmps9, List.size_toArray, List.length_cons, List.length_nil, Nat.reduceAdd, Nat.reduceSub, Array.replicate_succ, Array.replicate_zero, List.push_toArray, List.append_toArray, List.nil_append, List.cons_append]
  gi_wp2_with (fail)
  refine ⟨trivial, ?_⟩
  gi_at_call 17
  refine (callsIn_wide.2 (each_any A N cap W1)).mono ?_
  rintro e _ ⟨rfl, rfl⟩
  rw [hW2]
  obtain ⟨I, hI⟩ : ∃ I : List TK → Option Nat → World → Prop, I = fun pre ob V => ∃ v, Cells V w.heap.size 24 #[v] ∧ V.ownsRow (w.heap.size + 4) 30 6 v pre.length (rowC pre) ∧ v.ownBlock = ob := ⟨_, rfl⟩
  have sI : Stab W2.heap.size I := fun pre ob V V' hv h1 h2 h3 h4 h5 => by
    rw [hI] at hv ⊢
    obtain ⟨v, v1, v2, v3⟩ := hv
    exact ⟨v, (h5 _ v1.lt (.inl (by omega))).trans v1, ownsRow_same v2 (fun k hk => h5 k (own_block_lt v2 k hk).2 (.inr (v3.symm.trans hk))), v3⟩
  have oI : ObIn (W2.heap.size + 2) I := fun pre k V hv => by
    rw [hI] at hv
    obtain ⟨v, v1, v2, v3⟩ := hv
    have := own_block_lt v2 k v3
    omega
  have hi0 : I [] none W2 := by
    rw [hI]
    exact ⟨_, o2, ⟨rfl, .inl ⟨rfl, rfl⟩⟩, rfl⟩
  gi_wp2_with (fail)
  refine wpIn_handsT (X := fun k => k = w.heap.size) (xs := L) (by omega) (gf := 22) (lb := #[.pointer (some ⟨w.heap.size + 1, 0, none⟩)]) rfl (enters_of Tryz.func22 (by kernel_rfl) rfl) (HE.anyN _) (fun k hk => by omega) rfl I (fun _ _ _ => False) sI (fun _ _ _ _ h => h.elim) oI (fun _ _ _ h => h.elim) hi0
    (fun x p => { tmps := #[.slice A N cap, undef, .slice none 0 0, .pointer (some ⟨w.heap.size, 0, none⟩), .pointer (some ⟨p, 0, none⟩), .slice A N cap, .func (.func 22) #[] #[.pointer (some ⟨w.heap.size + 1, 0, none⟩)], tokV x, undef, undef, undef, undef, undef], defers := [] }) ?assign ?body ?done ?stop
  case assign =>
    intro l1 x V K hK
    unfold tokV tokC
    unfold tokV tokC at hK
    gi_wp2_with (fail)
    exact hK
  case body =>
    intro l1 pre ob x p V hi hpre xV hp hob
    rw [hI] at hi
    obtain ⟨v, o4, r4, hv⟩ := hi
    have hVp := xV.lt
    have htc : (tokC x) = #[.int .i64 (x.kind : Int), .int .i64 (x.fr : Int), .int .i64 (x.to : Int), .string ⟨(G.u8s x.name).toArray⟩, .int .i32 x.r, .bool x.sg] := rfl
    obtain ⟨tv, htv⟩ : ∃ v, tokV x = v := ⟨_, rfl⟩
    have hrs := rowC_snoc x pre
    rw [htc] at xV hrs
    have hpl : pre.length < N := by
      have := hpre.length_le
      simp only [List.length_append, List.length_singleton] at this
      omega
    obtain ⟨SN, hSN⟩ : ∃ Sx : ByteArray, ⟨(G.u8s x.name).toArray⟩ = Sx := ⟨_, rfl⟩
    obtain ⟨kd, hkd⟩ : ∃ n, x.kind = n := ⟨_, rfl⟩
    obtain ⟨sg, hsg⟩ : ∃ n, x.sg = n := ⟨_, rfl⟩
    obtain ⟨fr, hfr⟩ : ∃ n, x.fr = n := ⟨_, rfl⟩
    obtain ⟨te, hte⟩ : ∃ n, x.to = n := ⟨_, rfl⟩
    obtain ⟨rr, hrr⟩ : ∃ n, x.r = n := ⟨_, rfl⟩
    rw [hSN, hkd, hsg, hfr, hte, hrr] at xV hrs
    rw [htv]
    have q0 := xV.cell 0
    have q1 := xV.cell 1
    have q2 := xV.cell 2
    have q3 := xV.cell 3
    have q4 := xV.cell 4
    have q5 := xV.cell 5
    have q6 := o4.cell 0
    simp at q0 q1 q2 q3 q4 q5 q6
    obtain ⟨V1, hV1⟩ : ∃ Z, V.alloc (.cells #[.int .i64 (kd : Int), .int .i64 (fr : Int), .int .i64 (te : Int), .string SN, .int .i32 rr, .bool sg] 30) = Z := ⟨_, rfl⟩
    have bV : Below V.heap.size V V1 := by rw [← hV1]; exact below_new V _
    have nV : ∀ (j : Nat) u, ([.int .i64 (kd : Int), .int .i64 (fr : Int), .int .i64 (te : Int), .string SN, .int .i32 rr, .bool sg] : List Value)[j]? = some u → V1.cell? ((⟨V.heap.size, 0, none⟩ : Addr).add j) = some u := by
      rw [← hV1]
      exact World.news_of_block (heap_alloc_new V _)
    have hone : ∀ u ∈ ([.int .i64 (kd : Int), .int .i64 (fr : Int), .int .i64 (te : Int), .string SN, .int .i32 rr, .bool sg] : List Value), u.oneCell' = true := fun u hu => by
      simp at hu
      rcases hu with rfl | rfl | rfl | rfl | rfl | rfl <;> rfl
    have r5 : V1.ownsRow (w.heap.size + 4) 30 6 v pre.length (rowC pre) := ownsRow_below r4 bV
    have hs1 : w.heap.size + 4 ≤ V1.heap.size := by have := bV.size; omega
    obtain ⟨ti, tz, t1, t2, t3, t4, t5⟩ := info30_parts
    have hK : ∀ g cp V2, V2.ownsRow (w.heap.size + 4) 30 6 (.slice (some ⟨g, 0, none⟩) (pre.length + 1) cp) (pre.length + 1) (rowC pre ++ [.int .i64 (kd : Int), .int .i64 (fr : Int), .int .i64 (te : Int), .string SN, .int .i32 rr, .bool sg]) → V1.grownBy V2 v.ownBlock → (v.ownBlock = some g ∨ g = V1.heap.size) → g < V2.heap.size →
        V2.cell? ⟨w.heap.size, 0, none⟩ = some v ∧ V2.frozen? ⟨w.heap.size, 0, none⟩ = false ∧ roundLeftT (fun k => k = w.heap.size) I (fun _ _ _ => False) (pre ++ [x]) ob V .normal { tmps := #[], defers := [] } (V2.setCell ⟨w.heap.size, 0, none⟩ (.slice (some ⟨g, 0, none⟩) (pre.length + 1) cp)) := by
      intro g cp V2 k1 k2 k3 k4
      have o5 : Cells V2 w.heap.size 24 #[v] := (k2.block _ (by have := o4.lt; have := bV.size; omega) (fun e => by have := (own_block_lt r4 _ e.symm).1; omega)).trans (o4.on bV)
      refine ⟨by simpa using o5.cell 0, o5.froz 0, some g, ?_, ?_⟩
      · rw [hI]
        refine ⟨_, o5.set 0 _, ?_, rfl⟩
        rw [hrs, List.length_append]
        refine ownsRow_same k1 (fun k hk => Below.heap_setCell _ _ _ _ (fun e => ?_))
        have := (own_block_lt k1 k hk).1
        simp at e
        omega
      · rw [← hv]
        exact ((Fr.of_below bV).trans (Fr.grown k2 k3 k4)).trans (Fr.setc _ _ _ _ rfl)
    have HU := Lib.hid (And.intro hK (And.intro r5 (And.intro nV (And.intro hone hs1))))
    clear hK r5 nV hone hs1 r4 o4 hI sI oI hi0 HE hpre hv hrs htc htv hob hx hM hT hSN hkd hsg hfr hte hrr
    gi_wp2_with (gi_at_builtin; refine wpListIn_append_lies rfl _ _ 24 rfl (w.heap.size + 4) 30 ti tz 6 48 (by kernel_rfl) t1 t2 t3 t4 t5 (by decide) v pre.length (rowC pre) rfl HU.out.2.1 ⟨V.heap.size, 0, none⟩ 1 1 _ rfl rfl HU.out.2.2.1 HU.out.2.2.2.1 (by decide) (by unfold maxLen; omega) (by omega) HU.out.2.2.2.2 _ rfl ?_; intro g cp V2 k1 k2 k3 k4; obtain ⟨z1, z2, z3⟩ := HU.out.1 g cp V2 k1 k2 k3 k4; clear k1 k2 k3 k4; replace z3 := Lib.hid z3)
    exact z3.out
  case done =>
    intro D ob V hD hv hf hKD
    obtain rfl : D = w.heap.size + 2 := by omega
    rw [hI] at hv
    obtain ⟨v, o4, r4, hv⟩ := hv
    have q3 := o4.cell 0
    simp at q3
    have bV : Below w.heap.size w V := b2.trans (hf.below (B := w.heap.size) (by omega) (fun k hk => by omega) (by simp))
    have HF := Lib.hid (And.intro r4 bV)
    clear hI sI oI hi0 HE r4 bV hv hf o4 hx hM hT
    dsimp only
    gi_wp2_with (fail)
    refine ⟨by simp, .inl ⟨_, _, rfl, run_takeDeferred hKD, ?_⟩⟩
    refine ⟨_, results_tmp rfl _ _ _, v, rfl, ?_, ?_⟩
    · refine G.ownsRow_base (B := w.heap.size + 4) ?_ (by omega)
      exact ownsRow_same HF.out.1 (fun k hk => World.putObj_heap_other (by have := (own_block_lt HF.out.1 k hk).1; omega))
    · exact ⟨HF.out.2.os, HF.out.2.tape, HF.out.2.output, by simpa [World.putObj] using HF.out.2.size, fun k hk => (World.putObj_heap_other (by omega)).trans (HF.out.2.block k hk)⟩
  case stop =>
    intro D ob pre V hD hpre hv hf hKD
    exact hv.elim
end Go.Proofs.YtnedjafpjbfncaaGreatDoor

namespace Go.Proofs.YtnedjafpjbfncaaGreatDoor
open Go.RowKit Go.Shelf Go.Lib Go.Maps Go.Great
attribute [local irreducible] NR ZNR FR nmE

/-- Tokens somewhere. -/
structure TS (w : World) (B : Nat) (l : List TK) (A : Option Addr) (c : Nat) : Prop where
  le : l.length ≤ c
  mx : c ≤ maxLen
  r : ∀ (i : Nat) (x : TK), l[i]? = some x → ∃ b o, A = some ⟨b, o, none⟩ ∧ b < B ∧ w.cell? ⟨b, o + i * 6, none⟩ = some (.int .i64 (x.kind : Int)) ∧ w.cell? ⟨b, o + (i * 6 + 1), none⟩ = some (.int .i64 (x.fr : Int)) ∧
    w.cell? ⟨b, o + (i * 6 + 2), none⟩ = some (.int .i64 (x.to : Int)) ∧ w.cell? ⟨b, o + (i * 6 + 3), none⟩ = some (.string ⟨(G.u8s x.name).toArray⟩) ∧ w.cell? ⟨b, o + (i * 6 + 4), none⟩ = some (.int .i32 x.r) ∧ w.cell? ⟨b, o + (i * 6 + 5), none⟩ = some (.bool x.sg)
theorem TS.below {w w' : World} {B : Nat} {l : List TK} {A : Option Addr} {c : Nat} (h : TS w B l A c) (hb : Below B w w') : TS w' B l A c :=
  ⟨h.le, h.mx, fun i a ha => by
    obtain ⟨b, o, e, h1, h2, h3, h4, h5, h6, h7⟩ := h.r i a ha
    exact ⟨b, o, e, h1, (hb.cell (p := ⟨b, _, none⟩) h1).trans h2, (hb.cell (p := ⟨b, _, none⟩) h1).trans h3, (hb.cell (p := ⟨b, _, none⟩) h1).trans h4, (hb.cell (p := ⟨b, _, none⟩) h1).trans h5, (hb.cell (p := ⟨b, _, none⟩) h1).trans h6, (hb.cell (p := ⟨b, _, none⟩) h1).trans h7⟩⟩
theorem TS.mono {w : World} {B B' : Nat} {l : List TK} {A : Option Addr} {c : Nat} (h : TS w B l A c) (hB : B ≤ B') : TS w B' l A c :=
  ⟨h.le, h.mx, fun i a ha => by
    obtain ⟨b, o, e, h1, h2⟩ := h.r i a ha
    exact ⟨b, o, e, by omega, h2⟩⟩
theorem TS.on {w w' : World} {l : List TK} {A : Option Addr} {c : Nat} (h : TS w w.heap.size l A c) (hb : Below w.heap.size w w') : TS w' w'.heap.size l A c := (h.below hb).mono hb.size
theorem rowC_at : ∀ (l : List TK) (i : Nat) (x : TK), l[i]? = some x → ∀ j, j < 6 → (rowC l)[i * 6 + j]? = (tokC x)[j]?
  | [], i, a, h, _, _ => by simp at h
  | x :: l, 0, a, h, j, hj => by
    simp at h
    subst h
    rw [show rowC (x :: l) = (tokC x).toList ++ rowC l from rfl, Nat.zero_mul, Nat.zero_add, List.getElem?_append_left (by simpa [tokC] using hj)]
    simp
  | x :: l, i + 1, a, h, j, hj => by
    have ih := rowC_at l i a (by simpa using h) j hj
    rw [show rowC (x :: l) = (tokC x).toList ++ rowC l from rfl, List.getElem?_append_right (by simp [tokC]; omega)]
    rw [← ih]
    congr 1
    simp [tokC]
    omega
theorem TS.of_own {w : World} {base : Nat} {l : List TK} {v : Value} (h : OwnT w base l v) : ∃ A c, v = .slice A l.length c ∧ TS w w.heap.size l A c := by
  rcases h.2 with ⟨h1, h2⟩ | ⟨g, cap, cur, h1, h2, h3, h4, h5, h6, h7⟩
  · have hn : l = [] := List.eq_nil_of_length_eq_zero h2
    subst hn
    exact ⟨none, 0, by rw [h1]; rfl, ⟨Nat.le_refl _, by unfold maxLen; omega, fun i a ha => by simp at ha⟩⟩
  · refine ⟨_, cap, h1, ⟨h4, h5, fun i a ha => ⟨g, 0, rfl, (Array.getElem?_eq_some_iff.1 h3).1, ?_⟩⟩⟩
    have c := fun j hj u (hu : (tokC a)[j]? = some u) => World.ownsRow.cells h (g := g) (by rw [h1]; rfl) (i * 6 + j) u ((rowC_at l i a ha j hj).trans hu)
    have d0 := c 0 (by omega) _ rfl
    have d1 := c 1 (by omega) _ rfl
    have d2 := c 2 (by omega) _ rfl
    have d3 := c 3 (by omega) _ rfl
    have d4 := c 4 (by omega) _ rfl
    have d5 := c 5 (by omega) _ rfl
    rw [add0] at d0 d1 d2 d3 d4 d5
    simp only [Nat.zero_add]
    exact ⟨d0, d1, d2, d3, d4, d5⟩
/-- What may stand behind a token of a kind (9: behind nothing). -/
def adj : Nat → List TK → Prop
  | _, [] => True
  | p, t :: r => t.kind < 8 ∧ ¬ (p = 0 ∧ t.kind = 0) ∧ (t.kind = 7 → p = 2) ∧ adj t.kind r
theorem isRaw_kind {x : TK} (h : isRaw x = true) : x.kind = 2 := by
  unfold isRaw at h
  simp only [Bool.and_eq_true, decide_eq_true_eq] at h
  exact h.1.1
theorem adj_txs {p a b : Nat} {l : List TK} (hp : p ≠ 0) (h0 : adj 0 l) (h : adj p l) : adj p (txs a b ++ l) := by
  unfold txs
  split
  · exact ⟨by show 0 < 8; omega, fun e => hp e.1, fun e => absurd e (by show ¬ (0 = 7); omega), h0⟩
  · exact h
theorem adj_out {xs : List Nat} : ∀ (d k e p : Nat), xs.length - k = d → p ≠ 0 → k ≤ xs.length → adj p (outF e (marksL xs k) ++ txs (endF e (marksL xs k)) xs.length) := by
  intro d
  induction d using Nat.strongRecOn with
  | _ d ih =>
    intro k e p hd hp hk
    by_cases h : k < xs.length
    case neg =>
      rw [marksL_end h]
      show adj p (txs e xs.length)
      have := adj_txs (p := p) (a := e) (b := xs.length) (l := []) hp trivial trivial
      rw [List.append_nil] at this
      exact this
    case pos =>
      cases hm : markT xs k with
      | none =>
        rw [marksL_none h hm]
        exact ih (xs.length - (k + 1)) (by omega) (k + 1) e p rfl hp (by omega)
      | some t =>
        rw [marksL_some h hm]
        have h1 := mark_to (by omega) hm
        have h2 := rawT_le (xs := xs) (x := t) h1.2.2.1
        have hk0 : t.kind ≠ 0 := by omega
        show adj p ((txs e t.fr ++ (t :: outF t.to (rawTok xs t ++ marksL xs (rawT xs t)))) ++ txs (endF t.to (rawTok xs t ++ marksL xs (rawT xs t))) xs.length)
        rw [List.append_assoc]
        have key : adj t.kind (outF t.to (rawTok xs t ++ marksL xs (rawT xs t)) ++ txs (endF t.to (rawTok xs t ++ marksL xs (rawT xs t))) xs.length) := by
          by_cases hr : t.to < rawT xs t
          · have e1 : rawTok xs t = [⟨7, t.to, rawT xs t, [], 0, false⟩] := by unfold rawTok; rw [if_pos hr]
            have hir : isRaw t = true := by
              cases hi : isRaw t with
              | true => rfl
              | false => rw [not_raw hi] at hr; omega
            rw [e1]
            have := ih (xs.length - rawT xs t) (by omega) (rawT xs t) (rawT xs t) 7 rfl (by omega) h2.2
            have e2 : txs t.to t.to = [] := by unfold txs; rw [if_neg (Nat.lt_irrefl _)]
            show adj t.kind ((txs t.to t.to ++ (⟨7, t.to, rawT xs t, [], 0, false⟩ :: outF (rawT xs t) (marksL xs (rawT xs t)))) ++ txs (endF (rawT xs t) (marksL xs (rawT xs t))) xs.length)
            rw [e2]
            exact ⟨by show 7 < 8; omega, fun e => hk0 e.1, fun _ => isRaw_kind hir, this⟩
          · have e1 : rawTok xs t = [] := by unfold rawTok; rw [if_neg hr]
            rw [e1]
            exact ih (xs.length - rawT xs t) (by omega) (rawT xs t) t.to t.kind rfl hk0 h2.2
        exact adj_txs hp ⟨by omega, fun e => hk0 e.2, fun e => by omega, key⟩ ⟨by omega, fun e => hk0 e.2, fun e => by omega, key⟩
theorem eachL_adj (xs : List Nat) : adj 9 (eachL xs) := adj_out (xs := xs) _ 0 0 9 rfl (by omega) (Nat.zero_le _)
end Go.Proofs.YtnedjafpjbfncaaGreatDoor

namespace Go.Proofs.YtnedjafpjbfncaaGreatDoor
open Go.RowKit Go.Shelf Go.Lib Go.Maps Go.Great

/-- The kinds' names. -/
def kindB : Nat → List UInt8
  | 0 => [116, 101, 120, 116]
  | 1 => [114, 101, 102]
  | 2 => [115, 116, 97, 114, 116]
  | 3 => [101, 110, 100]
  | 4 => [99, 111, 109, 109, 101, 110, 116]
  | 5 => [100, 101, 99, 108]
  | 6 => [101, 115, 99, 97, 112, 101]
  | 7 => [114, 97, 119]
  | _ => []
set_option maxHeartbeats 4000000 in
set_option maxRecDepth 100000 in
theorem Kind_any (k : Nat) (h : k < 8) (w : World) : Calls Tryz.prog 12 #[.int .i64 (k : Int)] w fun e w' => e = .returned (.string ⟨(kindB k).toArray⟩) ∧ w' = w := by
  obtain rfl | rfl | rfl | rfl | rfl | rfl | rfl | rfl : k = 0 ∨ k = 1 ∨ k = 2 ∨ k = 3 ∨ k = 4 ∨ k = 5 ∨ k = 6 ∨ k = 7 := by omega
  · have hi : ∀ W, (Instr.index 48 (.agg #[.string ⟨#[116, 101, 120, 116]⟩, .string ⟨#[114, 101, 102]⟩, .string ⟨#[115, 116, 97, 114, 116]⟩, .string ⟨#[101, 110, 100]⟩, .string ⟨#[99, 111, 109, 109, 101, 110, 116]⟩, .string ⟨#[100, 101, 99, 108]⟩, .string ⟨#[101, 115, 99, 97, 112, 101]⟩, .string ⟨#[114, 97, 119]⟩]) (.int .i64 0)).run Tryz.prog W = .ok (.string ⟨#[116, 101, 120, 116]⟩) W := fun W => by kernel_rfl
    go_enter Tryz.func12, Tryz.ntmps12
    go_wp2_with fail
    go_ret
    exact ⟨rfl, rfl⟩
  · have hi : ∀ W, (Instr.index 48 (.agg #[.string ⟨#[116, 101, 120, 116]⟩, .string ⟨#[114, 101, 102]⟩, .string ⟨#[115, 116, 97, 114, 116]⟩, .string ⟨#[101, 110, 100]⟩, .string ⟨#[99, 111, 109, 109, 101, 110, 116]⟩, .string ⟨#[100, 101, 99, 108]⟩, .string ⟨#[101, 115, 99, 97, 112, 101]⟩, .string ⟨#[114, 97, 119]⟩]) (.int .i64 1)).run Tryz.prog W = .ok (.string ⟨#[114, 101, 102]⟩) W := fun W => by kernel_rfl
    go_enter Tryz.func12, Tryz.ntmps12
    go_wp2_with fail
    go_ret
    exact ⟨rfl, rfl⟩
  · have hi : ∀ W, (Instr.index 48 (.agg #[.string ⟨#[116, 101, 120, 116]⟩, .string ⟨#[114, 101, 102]⟩, .string ⟨#[115, 116, 97, 114, 116]⟩, .string ⟨#[101, 110, 100]⟩, .string ⟨#[99, 111, 109, 109, 101, 110, 116]⟩, .string ⟨#[100, 101, 99, 108]⟩, .string ⟨#[101, 115, 99, 97, 112, 101]⟩, .string ⟨#[114, 97, 119]⟩]) (.int .i64 2)).run Tryz.prog W = .ok (.string ⟨#[115, 116, 97, 114, 116]⟩) W := fun W => by kernel_rfl
    go_enter Tryz.func12, Tryz.ntmps12
    go_wp2_with fail
    go_ret
    exact ⟨rfl, rfl⟩
  · have hi : ∀ W, (Instr.index 48 (.agg #[.string ⟨#[116, 101, 120, 116]⟩, .string ⟨#[114, 101, 102]⟩, .string ⟨#[115, 116, 97, 114, 116]⟩, .string ⟨#[101, 110, 100]⟩, .string ⟨#[99, 111, 109, 109, 101, 110, 116]⟩, .string ⟨#[100, 101, 99, 108]⟩, .string ⟨#[101, 115, 99, 97, 112, 101]⟩, .string ⟨#[114, 97, 119]⟩]) (.int .i64 3)).run Tryz.prog W = .ok (.string ⟨#[101, 110, 100]⟩) W := fun W => by kernel_rfl
    go_enter Tryz.func12, Tryz.ntmps12
    go_wp2_with fail
    go_ret
    exact ⟨rfl, rfl⟩
  · have hi : ∀ W, (Instr.index 48 (.agg #[.string ⟨#[116, 101, 120, 116]⟩, .string ⟨#[114, 101, 102]⟩, .string ⟨#[115, 116, 97, 114, 116]⟩, .string ⟨#[101, 110, 100]⟩, .string ⟨#[99, 111, 109, 109, 101, 110, 116]⟩, .string ⟨#[100, 101, 99, 108]⟩, .string ⟨#[101, 115, 99, 97, 112, 101]⟩, .string ⟨#[114, 97, 119]⟩]) (.int .i64 4)).run Tryz.prog W = .ok (.string ⟨#[99, 111, 109, 109, 101, 110, 116]⟩) W := fun W => by kernel_rfl
    go_enter Tryz.func12, Tryz.ntmps12
    go_wp2_with fail
    go_ret
    exact ⟨rfl, rfl⟩
  · have hi : ∀ W, (Instr.index 48 (.agg #[.string ⟨#[116, 101, 120, 116]⟩, .string ⟨#[114, 101, 102]⟩, .string ⟨#[115, 116, 97, 114, 116]⟩, .string ⟨#[101, 110, 100]⟩, .string ⟨#[99, 111, 109, 109, 101, 110, 116]⟩, .string ⟨#[100, 101, 99, 108]⟩, .string ⟨#[101, 115, 99, 97, 112, 101]⟩, .string ⟨#[114, 97, 119]⟩]) (.int .i64 5)).run Tryz.prog W = .ok (.string ⟨#[100, 101, 99, 108]⟩) W := fun W => by kernel_rfl
    go_enter Tryz.func12, Tryz.ntmps12
    go_wp2_with fail
    go_ret
    exact ⟨rfl, rfl⟩
  · have hi : ∀ W, (Instr.index 48 (.agg #[.string ⟨#[116, 101, 120, 116]⟩, .string ⟨#[114, 101, 102]⟩, .string ⟨#[115, 116, 97, 114, 116]⟩, .string ⟨#[101, 110, 100]⟩, .string ⟨#[99, 111, 109, 109, 101, 110, 116]⟩, .string ⟨#[100, 101, 99, 108]⟩, .string ⟨#[101, 115, 99, 97, 112, 101]⟩, .string ⟨#[114, 97, 119]⟩]) (.int .i64 6)).run Tryz.prog W = .ok (.string ⟨#[101, 115, 99, 97, 112, 101]⟩) W := fun W => by kernel_rfl
    go_enter Tryz.func12, Tryz.ntmps12
    go_wp2_with fail
    go_ret
    exact ⟨rfl, rfl⟩
  · have hi : ∀ W, (Instr.index 48 (.agg #[.string ⟨#[116, 101, 120, 116]⟩, .string ⟨#[114, 101, 102]⟩, .string ⟨#[115, 116, 97, 114, 116]⟩, .string ⟨#[101, 110, 100]⟩, .string ⟨#[99, 111, 109, 109, 101, 110, 116]⟩, .string ⟨#[100, 101, 99, 108]⟩, .string ⟨#[101, 115, 99, 97, 112, 101]⟩, .string ⟨#[114, 97, 119]⟩]) (.int .i64 7)).run Tryz.prog W = .ok (.string ⟨#[114, 97, 119]⟩) W := fun W => by kernel_rfl
    go_enter Tryz.func12, Tryz.ntmps12
    go_wp2_with fail
    go_ret
    exact ⟨rfl, rfl⟩
set_option maxHeartbeats 4000000 in
set_option maxRecDepth 100000 in
theorem Kind_no (k : Int) (h : ¬ (0 ≤ k ∧ k < 8)) (w : World) : Calls Tryz.prog 12 #[.int .i64 k] w fun e w' => e = .returned (.string ⟨#[]⟩) ∧ w' = w := by
  by_cases c : k < 0
  · go_enter Tryz.func12, Tryz.ntmps12
    go_wp2_with fail
    go_ret
    exact ⟨rfl, rfl⟩
  · have d : decide (k < 0) = false := by simpa using c
    have d2 : (8 : Int) ≤ k := by omega
    clear h
    go_enter Tryz.func12, Tryz.ntmps12
    go_wp2_with fail
    go_ret
    exact ⟨rfl, rfl⟩
end Go.Proofs.YtnedjafpjbfncaaGreatDoor

namespace Go.Proofs.YtnedjafpjbfncaaGreatDoor.P
open Go.RowKit Go.Shelf
open Go.Lib

/-- The one place of the table that base 16 asks. -/
def TZ (w : World) : Prop := w.cell? ⟨6, 15, none⟩ = some (.int .u8 4) ∧ 7 ≤ w.heap.size
theorem TZ.below {w w' : World} (h : TZ w) (hb : Below w.heap.size w w') : TZ w' :=
  ⟨(hb.cell (p := ⟨6, 15, none⟩) (by show 6 < w.heap.size; have := h.2; omega)).trans h.1, Nat.le_trans h.2 hb.size⟩

theorem tz64_any (w : World) (h : TZ w) : Calls Tryz.prog 106 #[.int .u64 16] w fun e w' => e = .returned (.int .i64 4) ∧ w' = w := by
  have q := h.1
  have e1 : IntKind.u64.wrap (-16) = 18446744073709551600 := by decide
  have e2 : bits .and .u64 16 18446744073709551600 = 16 := by
    have := u64_and_nat 16 18446744073709551600 (by decide) (by decide)
    exact this.trans (by decide +kernel)
  have e3 : IntKind.u64.wrap (16 * 285870213051353865) = 4573923408821661840 := by decide
  go_enter Tryz.func106, Tryz.ntmps106
  go_wp2
  go_ret
  exact ⟨rfl, rfl⟩
theorem tz_any (w : World) (h : TZ w) : Calls Tryz.prog 87 #[.int .u64 16] w fun e w' => e = .returned (.int .i64 4) ∧ w' = w := by
  have C := Lib.hid (tz64_any w h)
  go_enter Tryz.func87, Tryz.ntmps87
  go_wp2_with fail
  refine C.out.mono ?_
  rintro e w1 ⟨rfl, rfl⟩
  go_wp2
  go_ret
  exact ⟨rfl, rfl⟩
theorem pow2_any (w : World) : Calls Tryz.prog 86 #[.int .i64 16] w fun e w' => e = .returned (.bool true) ∧ w' = w := by
  go_enter Tryz.func86, Tryz.ntmps86
  go_wp2
  go_ret
  exact ⟨rfl, rfl⟩

def hexTab : ByteArray := ⟨#[48, 49, 50, 51, 52, 53, 54, 55, 56, 57, 97, 98, 99, 100, 101, 102, 103, 104, 105, 106, 107, 108, 109, 110, 111, 112, 113, 114, 115, 116, 117, 118, 119, 120, 121, 122]⟩
def hexC (d : Nat) : UInt8 := if h : d < 36 then hexTab[d]'h else 0
theorem hexC_eq (d : Nat) (h : d < 36) : hexTab[d]'h = hexC d := by unfold hexC; rw [dif_pos h]
/-- A number's digits, base 16. -/
def hexD (n : Nat) : List UInt8 := if n < 16 then [hexC n] else hexD (n / 16) ++ [hexC (n % 16)]
termination_by n
decreasing_by omega
theorem hexD_lt {n : Nat} (h : n < 16) : hexD n = [hexC n] := by rw [hexD, if_pos h]
theorem hexD_ge {n : Nat} (h : ¬ n < 16) : hexD n = hexD (n / 16) ++ [hexC (n % 16)] := by rw [hexD, if_neg h]

theorem zero164 : Tryz.zeroCells136 = Array.replicate 65 (.int .u8 0) := by kernel_rfl
/-- The array that the digits are written into, from its end on. -/
structure AR (w : World) (B : Nat) (p : Nat) (ds : List UInt8) : Prop where
  c : ∀ i, i < 65 → ∃ v, w.cell? ⟨B, i, none⟩ = some v
  f : ∀ i, w.frozen? ⟨B, i, none⟩ = false
  l : ds.length + p = 65
  d : ∀ j (h : j < ds.length), w.cell? ⟨B, p + j, none⟩ = some (.int .u8 (ds[j].toNat : Int))
theorem AR.start (w : World) : AR (w.alloc (.cells Tryz.zeroCells136 136)) w.heap.size 65 [] := by
  rw [zero164]
  refine ⟨fun i hi => ⟨.int .u8 0, ?_⟩, fun i => by simp, rfl, fun j h => by simp at h⟩
  have := Cells.cell (show Cells _ _ 136 _ from World.alloc_heap_new w (.cells (Array.replicate 65 (.int .u8 0)) 136)) i
  rw [this]
  simp [hi]
theorem AR.store {w : World} {B p : Nat} {ds : List UInt8} (h : AR w B (p + 1) ds) (d : UInt8) : AR (w.setCell ⟨B, p, none⟩ (.int .u8 (d.toNat : Int))) B p (d :: ds) := by
  obtain ⟨v, hv⟩ := h.c p (by have := h.l; omega)
  have hs := World.cell?_setCell_same' w ⟨B, p, none⟩ (.int .u8 (d.toNat : Int)) (by rw [hv]; rfl)
  have ho : ∀ i, i ≠ p → (w.setCell ⟨B, p, none⟩ (.int .u8 (d.toNat : Int))).cell? ⟨B, i, none⟩ = w.cell? ⟨B, i, none⟩ := fun i hi => World.cell?_setCell_other _ _ _ _ (by intro e; injection e with e1 e2; exact hi e2.symm)
  refine ⟨fun i hi => ?_, fun i => by rw [World.frozen?_setCell]; exact h.f i, by have := h.l; simp; omega, fun j hj => ?_⟩
  · by_cases c : i = p
    · subst c; exact ⟨_, hs⟩
    · rw [ho i c]; exact h.c i hi
  · cases j with
    | zero => exact hs
    | succ j =>
      rw [ho (p + (j + 1)) (by omega)]
      have := h.d j (by simpa using hj)
      rw [show p + (j + 1) = p + 1 + j by omega]
      exact this

theorem hq58 (m q : Nat) (c : 16 ≤ m) (hm : m < 16 ^ (q + 1 - 57)) (hp : 58 ≤ q + 1) : 58 ≤ q := by
  rcases Nat.lt_or_ge q 58 with h | h
  · have : q = 57 := by omega
    subst this
    simp at hm
    omega
  · exact h

set_option maxHeartbeats 2000000 in
set_option maxRecDepth 100000 in
theorem fb_any (n : Nat) (hn : n < 4294967296) (w : World) (h : TZ w) :
    Calls Tryz.prog 61 #[.slice none 0 0, .int .u64 n, .int .i64 16, .bool false, .bool false] w fun e w' => e = .returned (.tuple #[.slice none 0 0, .string ⟨(hexD n).toArray⟩]) ∧ Below w.heap.size w w' := by
  have HT := Lib.hid h
  clear h
  have C1 := Lib.hid pow2_any
  have C2 := Lib.hid tz_any
  have hb0 := below_new w (.cells Tryz.zeroCells136 136)
  have hA0 := AR.start w
  have HT1 := Lib.hid (HT.out.below hb0)
  have HB0 := Lib.hid hb0
  have HA0 := Lib.hid hA0
  clear hb0 hA0
  go_enter Tryz.func61, Tryz.ntmps61
  go_wp2_with fail
  refine (C1.out _).mono ?_
  rintro e w1 ⟨rfl, rfl⟩
  go_wp2_with fail
  refine (C2.out _ HT1.out).mono ?_
  rintro e w1 ⟨rfl, rfl⟩
  go_wp2_with fail
  go_loopw [1, 13] (fun u i wr => ∃ (m p : Nat) (ds : List UInt8), u = .int .u64 m ∧ i = .int .i64 p ∧ 58 ≤ p ∧ m < 16 ^ (p - 57) ∧ AR wr w.heap.size p ds ∧ hexD n = hexD m ++ ds ∧ Below w.heap.size w wr) (fun u _ _ => (RowKit.intOf u).toNat)
  case atStart => exact ⟨n, 65, [], rfl, rfl, by omega, by simpa using hn, HA0.out, by simp, HB0.out⟩
  case round =>
    obtain ⟨m, p, ds, rfl, rfl, hp, hm, hA, hD, hb⟩ := hrel
    have hpl : p ≤ 65 := by have := hA.l; omega
    have hm32 : m < 4294967296 := Nat.lt_of_lt_of_le hm (Nat.pow_le_pow_right (n := 16) (by omega) (show p - 57 ≤ 8 by omega))
    have hD := Lib.hid hD
    obtain ⟨q, rfl⟩ : ∃ q, p = q + 1 := ⟨p - 1, by omega⟩
    obtain ⟨v, hv⟩ := hA.c q (by omega)
    have hf := hA.f q
    have HA := Lib.hid hA
    have j0 : (0 : Int) ≤ (q : Int) := by omega
    have j1 : (q : Int) < 65 := by omega
    clear hA
    by_cases c : 16 ≤ m
    · have c1 : (16 : Int) ≤ (m : Int) := by omega
      have hand : bits .and .u64 (m : Int) 15 = ((m % 16 : Nat) : Int) := by
        have h2 : m &&& 15 = m % 16 := Nat.and_two_pow_sub_one_eq_mod m 4
        have h1 : bits .and .u64 (m : Int) 15 = ((m &&& 15 : Nat) : Int) := u64_and_nat m 15 (by omega) (by decide)
        rw [h1, h2]
      have k0 : (0 : Int) ≤ ((m % 16 : Nat) : Int) := by omega
      have k1 : ((m % 16 : Nat) : Int) < 16 := by omega
      have hE := Lib.hid (hexD_ge (n := m) (by omega))
      have hpow : m / 16 < 16 ^ (q - 57) := by
        rw [show q + 1 - 57 = q - 57 + 1 by have : 58 ≤ q := hq58 m q c hm hp; omega, Nat.pow_succ] at hm
        exact Nat.div_lt_of_lt_mul (by rw [Nat.mul_comm]; exact hm)
      have hq := hq58 m q c hm hp
      generalize hd : m % 16 = d at hand k0 k1 hE
      have HS := HA.out.store (hexC d)
      rw [← hexC_eq d (by omega)] at HS
      have hb2 := hb.setCell (p := ⟨w.heap.size, q, none⟩) (Nat.le_refl _) (.int .u8 ((hexTab[d]'(show d < 36 by omega)).toNat : Int))
      have HS := Lib.hid (And.intro HS hb2)
      clear hb hb2
      go_wp2_with fail
      go_roundw
      case rel => exact ⟨m / 16, q, hexC d :: ds, by rw [Int.natCast_ediv]; rfl, rfl, hq, hpow, by rw [← hexC_eq d (by omega)]; exact HS.out.1, by rw [hD.out, hE.out, List.append_assoc]; rfl, HS.out.2⟩
      case measure => simp [RowKit.intOf]; omega
    · have c1 : ¬ ((16 : Int) ≤ (m : Int)) := by omega
      have hE := Lib.hid (hexD_lt (n := m) (by omega))
      have k0 : (0 : Int) ≤ (m : Int) := by omega
      have k1 : (m : Int) < 16 := by omega
      have HS := HA.out.store (hexC m)
      have hl0 := HS.l
      rw [← hexC_eq m (by omega)] at HS
      have hb2 := hb.setCell (p := ⟨w.heap.size, q, none⟩) (Nat.le_refl _) (.int .u8 ((hexTab[m]'(show m < 36 by omega)).toNat : Int))
      have hsl : ∀ W, (Instr.sliceAt 136 (.pointer (some ⟨w.heap.size, 0, none⟩)) (some (.int .i64 (q : Int))) none none).run Tryz.prog W = .ok (.slice (some ⟨w.heap.size, q, none⟩) (65 - q) (65 - q)) W := fun W => by
        have hL : Tryz.prog.arrayLen 136 = 65 := by kernel_rfl
        have hz : (Go.sizeOf (Tryz.prog.elem 136)).run Tryz.prog W = .ok 1 W := by
          have : Tryz.prog.elem 136 = 5 := by kernel_rfl
          rw [this]
          exact Tryz.sizeOf5 W
        rw [run_sliceAt_array_l W 136 ⟨w.heap.size, 0, none⟩ (by kernel_rfl) .i64 q (by omega) (by rw [hL]; omega), hz, hL]
        simp only [Result.andThen, slicedAt, Int.toNat_natCast]
        rw [if_neg (by omega), Addr.add_lit]
        simp
      have hcv := run_convert_bytes_back (P := Tryz.prog) (wr.setCell ⟨w.heap.size, q, none⟩ (.int .u8 ((hexTab[m]'(show m < 36 by omega)).toNat : Int))) 22 9 5 ⟨w.heap.size, q, none⟩ (65 - q) (hexTab[m]'(show m < 36 by omega) :: ds) Tryz.underlying22 Tryz.underlying5 Tryz.underlying9 (fun j hj => by rw [Addr.add_lit]; exact HS.d j hj)
      rw [show (hexTab[m]'(show m < 36 by omega) :: ds).length = 65 - q by simp at hl0 ⊢; omega] at hcv
      have HS := Lib.hid (And.intro HS hb2)
      clear hb hb2 hl0
      unfold hexTab at hcv
      go_wp2_with fail
      go_ret2
      refine ⟨?_, HS.out.2⟩
      rw [hD.out, hE.out, ← hexC_eq m (by omega)]
      rfl
end Go.Proofs.YtnedjafpjbfncaaGreatDoor.P

namespace Go.Proofs
open Go.Shelf
def Tryz.repeatL_ren : Go.Shelf.Ren := ⟨fun | 105 => 33 | 212 => 48 | 99 => 49 | 165 => 42 | 166 => 43 | 170 => 50 | 169 => 45 | 263 => 69 | 264 => 70 | 206 => 71 | 240 => 62 | 241 => 63 | 276 => 88 | 277 => 89 | n => n, fun | 9 => 9 | 3 => 3 | 4 => 4 | 20 => 20 | 0 => 0 | 46 => 81 | 109 => 82 | 5 => 5 | 72 => 71 | 76 => 75 | 51 => 113 | 146 => 114 | 53 => 103 | 148 => 116 | 70 => 69 | 37 => 22 | 75 => 74 | 127 => 108 | 164 => 139 | 80 => 78 | n => n, fun | n => n⟩
theorem Tryz.repeatL : Go.Proofs.Lays.n105 Tryz.prog Tryz.repeatL_ren := {
  mixed := by kernel_rfl
  f99 := Tryz.func49.trans (congrArg some (by kernel_rfl))
  f105 := Tryz.func33.trans (congrArg some (by kernel_rfl))
  f165 := Tryz.func42.trans (congrArg some (by kernel_rfl))
  f166 := Tryz.func43.trans (congrArg some (by kernel_rfl))
  f169 := Tryz.func45.trans (congrArg some (by kernel_rfl))
  f170 := Tryz.func50.trans (congrArg some (by kernel_rfl))
  f206 := Tryz.func71.trans (congrArg some (by kernel_rfl))
  f212 := Tryz.func48.trans (congrArg some (by kernel_rfl))
  f240 := Tryz.func62.trans (congrArg some (by kernel_rfl))
  f241 := Tryz.func63.trans (congrArg some (by kernel_rfl))
  f263 := Tryz.func69.trans (congrArg some (by kernel_rfl))
  f264 := Tryz.func70.trans (congrArg some (by kernel_rfl))
  f276 := Tryz.func88.trans (congrArg some (by kernel_rfl))
  f277 := Tryz.func89.trans (congrArg some (by kernel_rfl))
  t0 := Tryz.underlying0
  a0 := Tryz.isAgg0
  z0 := Tryz.sizeOf0
  v0 := Tryz.zeroValue0
  t3 := Tryz.underlying3
  a3 := Tryz.isAgg3
  z3 := Tryz.sizeOf3
  v3 := Tryz.zeroValue3
  t4 := Tryz.underlying4
  a4 := Tryz.isAgg4
  z4 := Tryz.sizeOf4
  v4 := Tryz.zeroValue4
  t5 := Tryz.underlying5
  a5 := Tryz.isAgg5
  z5 := Tryz.sizeOf5
  v5 := Tryz.zeroValue5
  t9 := Tryz.underlying9
  a9 := Tryz.isAgg9
  z9 := Tryz.sizeOf9
  v9 := Tryz.zeroValue9
  t20 := Tryz.underlying20
  a20 := Tryz.isAgg20
  z20 := Tryz.sizeOf20
  v20 := Tryz.zeroValue20
  t37 := Tryz.underlying22
  a37 := Tryz.isAgg22
  z37 := Tryz.sizeOf22
  v37 := Tryz.zeroValue22
  t46 := Tryz.underlying81
  a46 := Tryz.isAgg81
  z46 := Tryz.sizeOf81
  v46 := Tryz.zeroValue81
  t51 := Tryz.underlying113
  a51 := Tryz.isAgg113
  z51 := Tryz.sizeOf113
  v51 := Tryz.zeroValue113
  t53 := Tryz.underlying103
  a53 := Tryz.isAgg103
  z53 := Tryz.sizeOf103
  v53 := Tryz.zeroValue103
  t70 := Tryz.underlying69
  a70 := Tryz.isAgg69
  z70 := Tryz.sizeOf69
  v70 := Tryz.zeroValue69
  t72 := Tryz.underlying71
  a72 := Tryz.isAgg71
  z72 := Tryz.sizeOf71
  v72 := Tryz.zeroValue71
  t75 := Tryz.underlying74
  a75 := Tryz.isAgg74
  z75 := Tryz.sizeOf74
  v75 := Tryz.zeroValue74
  t76 := Tryz.underlying75
  a76 := Tryz.isAgg75
  z76 := Tryz.sizeOf75
  v76 := Tryz.zeroValue75
  t109 := Tryz.underlying82
  a109 := Tryz.isAgg82
  z109 := Tryz.sizeOf82
  v109 := Tryz.zeroValue82
  t127 := Tryz.underlying108
  a127 := Tryz.isAgg108
  z127 := Tryz.sizeOf108
  v127 := Tryz.zeroValue108
  t146 := Tryz.underlying114
  a146 := Tryz.isAgg114
  z146 := Tryz.sizeOf114
  v146 := Tryz.zeroValue114
  t148 := Tryz.underlying116
  a148 := Tryz.isAgg116
  z148 := Tryz.sizeOf116
  v148 := Tryz.zeroValue116
  t164 := Tryz.underlying139
  a164 := Tryz.isAgg139
  z164 := Tryz.sizeOf139
  v164 := Tryz.zeroValue139 }
end Go.Proofs

namespace Go.Proofs.YtnedjafpjbfncaaGreatDoor.P
open Go.RowKit Go.Shelf
open Go.Lib

theorem repX : Builder.Extra Tryz.prog Tryz.repeatL_ren where
  sizeBuilder := by kernel_rfl
  liesBuilder := by kernel_rfl
  t5 := Tryz.repeatL.t5
  a5 := Tryz.repeatL.a5
  z5 := Tryz.repeatL.z5
  v5 := Tryz.repeatL.v5
  infoByte := by kernel_rfl
  cellsByte := by kernel_rfl
  sizeByte := by kernel_rfl
  neB5 := by decide

theorem fi84_any (n : Nat) (hn : n < 4294967296) (w : World) (h : TZ w) :
    Calls Tryz.prog 41 #[.int .i64 n, .int .i64 16] w fun e w' => e = .returned (.string ⟨(hexD n).toArray⟩) ∧ Below w.heap.size w w' := by
  have C := Lib.hid (fb_any n hn w h)
  have h0 : (0 : Int) ≤ (n : Int) := by omega
  have h1 : (n : Int) < 4294967296 := by omega
  have d : decide ((n : Int) < 0) = false := by simp
  clear hn h
  go_enter Tryz.func41, Tryz.ntmps41
  go_wp2_with fail
  refine C.out.mono ?_
  rintro e w1 ⟨rfl, hb⟩
  go_wp2
  go_ret
  exact ⟨rfl, hb⟩
theorem fi59_any (n : Nat) (hn : n < 4294967296) (w : World) (h : TZ w) :
    Calls Tryz.prog 32 #[.int .i64 n, .int .i64 16] w fun e w' => e = .returned (.string ⟨(hexD n).toArray⟩) ∧ Below w.heap.size w w' := by
  have C := Lib.hid (fi84_any n hn w h)
  clear hn h
  go_enter Tryz.func32, Tryz.ntmps32
  go_wp2_with fail
  refine C.out.mono ?_
  rintro e w1 ⟨rfl, hb⟩
  go_wp2
  go_ret
  exact ⟨rfl, hb⟩

def pad4 (l : List UInt8) : List UInt8 := List.replicate (4 - l.length) 48 ++ l
theorem repeat48 (c : Nat) : Lib.repeatL [48] c = List.replicate c 48 := by
  induction c with
  | zero => rfl
  | succ c ih => rw [Lib.repeatL, ih, List.replicate_succ]; rfl
theorem rep_any (c : Nat) (hc : c ≤ 100) (w : World) : Calls Tryz.prog 33 #[.string ⟨#[48]⟩, .int .i64 c] w fun e w' => e = .returned (.string ⟨(List.replicate c 48).toArray⟩) ∧ Below w.heap.size w w' := by
  have C : Calls Tryz.prog 33 #[.string ⟨#[48]⟩, .int .i64 c] w _ := Any.strings_Repeat Tryz.repeatL repX ⟨#[48]⟩ c w (by omega) (by show 1 * c ≤ _; omega)
  refine C.mono ?_
  rintro e w' ⟨rfl, hb⟩
  refine ⟨?_, hb⟩
  rw [show (⟨#[48]⟩ : ByteArray).data.toList = [48] from rfl, repeat48]

theorem hexD_len (n : Nat) : 1 ≤ (hexD n).length ∧ ∀ m, n < 16 ^ (m + 1) → (hexD n).length ≤ m + 1 := by
  induction n using Nat.strongRecOn with
  | ind n ih =>
    by_cases c : n < 16
    · rw [hexD_lt c]; simp
    · rw [hexD_ge c]
      have h := ih (n / 16) (by omega)
      refine ⟨by simp, fun m hm => ?_⟩
      cases m with
      | zero => simp at hm; omega
      | succ m =>
        have := h.2 m (by rw [Nat.pow_succ] at hm; omega)
        simp; omega

end Go.Proofs.YtnedjafpjbfncaaGreatDoor.P

namespace Go.Proofs.YtnedjafpjbfncaaGreatDoor.P
open Go.RowKit Go.Shelf
open Go.Lib

/-! ### scalar.Print -/
def hexU (n : Nat) : List UInt8 := Lib.toUpperA (hexD n)
theorem hexC_ascii : ∀ d, d < 16 → (hexC d).toNat < 128 := by decide +kernel
theorem hexD_ascii (n : Nat) : ∀ c ∈ hexD n, c.toNat < 128 := by
  induction n using Nat.strongRecOn with
  | ind n ih =>
    intro c hc
    by_cases h : n < 16
    · rw [hexD_lt h] at hc
      rw [List.mem_singleton.1 hc]
      exact hexC_ascii n h
    · rw [hexD_ge h] at hc
      rcases List.mem_append.1 hc with hc | hc
      · exact ih _ (by omega) c hc
      · rw [List.mem_singleton.1 hc]
        exact hexC_ascii _ (by omega)
theorem up_any (n : Nat) (hn : n < 4294967296) (w : World) : Calls Tryz.prog 31 #[.string ⟨(hexD n).toArray⟩] w fun e w' => e = .returned (.string ⟨(hexU n).toArray⟩) ∧ Below w.heap.size w w' := by
  have hl := (hexD_len n).2 7 (by omega)
  exact Tryz.strings_ToUpper_ascii ⟨(hexD n).toArray⟩ w (by show (hexD n).toArray.size ≤ _; simp; omega) (fun j b hb => hexD_ascii n b (List.mem_of_getElem? (by simpa using hb)))
/-- A number's text: U+, a sign, four digits or more. -/
def scT (r : Int) : List UInt8 := [85, 43] ++ (if r < 0 then [45] else []) ++ pad4 (hexU r.natAbs)
theorem hexU_len (n : Nat) : (hexU n).length = (hexD n).length := by simp [hexU, Lib.toUpperA]

set_option maxHeartbeats 2000000 in
theorem sp_any (r : Int) (h0 : -2147483648 ≤ r) (h1 : r ≤ 2147483647) (w : World) (h : TZ w) :
    Calls Tryz.prog 21 #[.int .i32 r] w fun e w' => e = .returned (.string ⟨(scT r).toArray⟩) ∧ Below w.heap.size w w' := by
  obtain ⟨n, hn⟩ : ∃ n, r.natAbs = n := ⟨_, rfl⟩
  have C1 := Lib.hid (fi59_any n (by omega) w h)
  have C2 := Lib.hid (fun W => up_any n (by omega) W)
  have HR := Lib.hid rep_any
  have hl := (hexD_len n).2 7 (by omega)
  have hu := hexU_len n
  have HT : Hid (scT r = [85, 43] ++ (if r < 0 then [45] else []) ++ (List.replicate (4 - (hexU n).length) 48 ++ hexU n)) := Lib.hid (by unfold scT pad4; rw [hn])
  rw [← hu] at hl
  clear hu h
  generalize hexU n = ds at *
  generalize hexD n = dl at *
  have HM := Lib.hid (show max (0 : Int) (4 - (ds.length : Int)) = ((4 - ds.length : Nat) : Int) by omega)
  have h8' : (ds.length : Int) ≤ 8 := by omega
  generalize hsc : scT r = out at *
  have HC := Lib.hid (fun a b : List UInt8 => (show (⟨a.toArray⟩ ++ ⟨b.toArray⟩ : ByteArray) = ⟨(a ++ b).toArray⟩ by simp [ByteArray.ext_iff]))
  by_cases c : r < 0
  · rw [if_pos c] at HT
    have hrn : r = -(n : Int) := by omega
    have HRN := Lib.hid hrn
    have HT2 := Lib.hid (show ([85, 43] ++ [45] ++ List.replicate (4 - ds.length) 48 ++ ds : List UInt8) = out by rw [HT.out]; simp)
    clear hrn hn hsc HT
    go_enter Tryz.func21, Tryz.ntmps21
    go_wp2_with fail
    rw [show -r = (n : Int) by have := HRN.out; omega]
    refine C1.out.mono ?_
    rintro e w1 ⟨rfl, hb1⟩
    go_wp2_with fail
    refine (C2.out _).mono ?_
    rintro e w2 ⟨rfl, hb2⟩
    have hb := hb1.trans (hb2.mono hb1.size)
    go_wp2_with fail
    rw [HM.out]
    refine (HR.out _ (by omega) _).mono ?_
    rintro e w3 ⟨rfl, hb3⟩
    have hbz := hb.trans (hb3.mono hb.size)
    go_wp2
    go_ret
    exact ⟨by rw [← HT2.out]; simp only [HC.out]; rfl, hbz⟩
  · rw [if_neg c] at HT
    have hrn : r = (n : Int) := by omega
    have HT2 := Lib.hid (show ([85, 43] ++ [] ++ List.replicate (4 - ds.length) 48 ++ ds : List UInt8) = out by rw [HT.out]; simp)
    have d : decide (r < 0) = false := by simpa using c
    have HRN := Lib.hid hrn
    clear hn hsc HT hrn c
    go_enter Tryz.func21, Tryz.ntmps21
    go_wp2_with fail
    rw [show r = (n : Int) from HRN.out]
    refine C1.out.mono ?_
    rintro e w1 ⟨rfl, hb1⟩
    go_wp2_with fail
    refine (C2.out _).mono ?_
    rintro e w2 ⟨rfl, hb2⟩
    have hb := hb1.trans (hb2.mono hb1.size)
    go_wp2_with fail
    rw [HM.out]
    refine (HR.out _ (by omega) _).mono ?_
    rintro e w3 ⟨rfl, hb3⟩
    have hbz := hb.trans (hb3.mono hb.size)
    go_wp2
    go_ret
    exact ⟨by rw [← HT2.out]; simp only [HC.out]; rfl, hbz⟩
end Go.Proofs.YtnedjafpjbfncaaGreatDoor.P

namespace Go.Proofs.YtnedjafpjbfncaaGreatDoor
open Go.RowKit Go.Shelf Go.Lib Go.Maps Go.Great
open Go.Sort (grow)

/-- A token's text. -/
def printB (k : Nat) (f t : Int) (name : List UInt8) (r : Int) (sg : Bool) : List UInt8 :=
  kindB k ++ [32] ++ itoa f ++ [32] ++ itoa t ++ (if k = 1 then [32] ++ P.scT r else if k = 2 ∨ k = 3 then [32] ++ name ++ (if sg then [32, 47] else []) else [])
def ItoaAt (w : World) (n : Int) : Prop := ∀ W, Below w.heap.size w W → Calls Tryz.prog 20 #[.int .i64 n] W fun e w' => e = .returned (.string ⟨(itoa n).toArray⟩) ∧ Below W.heap.size W w'
theorem kindB_len (k : Nat) (h : k < 8) : (kindB k).length ≤ 7 := by
  obtain rfl | rfl | rfl | rfl | rfl | rfl | rfl | rfl : k = 0 ∨ k = 1 ∨ k = 2 ∨ k = 3 ∨ k = 4 ∨ k = 5 ∨ k = 6 ∨ k = 7 := by omega
  all_goals decide
theorem scT_len (r : Int) (h0 : -2147483648 ≤ r) (h1 : r ≤ 2147483647) : (P.scT r).length ≤ 30 := by
  have h2 := (P.hexD_len r.natAbs).2 7 (by omega)
  have h3 := P.hexU_len r.natAbs
  unfold P.scT P.pad4
  simp only [List.length_append, List.length_replicate, List.length_cons, List.length_nil]
  split <;> simp <;> omega
theorem kindB_ne (k : Nat) (h : k < 8) : kindB k ≠ [] := by
  obtain rfl | rfl | rfl | rfl | rfl | rfl | rfl | rfl : k = 0 ∨ k = 1 ∨ k = 2 ∨ k = 3 ∨ k = 4 ∨ k = 5 ∨ k = 6 ∨ k = 7 := by omega
  all_goals decide
set_option maxHeartbeats 8000000 in
set_option maxRecDepth 100000 in
theorem Print_any (k : Nat) (h : k < 8) (f t : Int) (S : ByteArray) (r : Int) (hr : -2147483648 ≤ r ∧ r ≤ 2147483647) (sg : Bool) (w : World) (hf : ItoaAt w f) (ht : ItoaAt w t) (hT : P.TZ w) (hlf : (itoa f).length ≤ 30) (hlt : (itoa t).length ≤ 30) (hS : S.size ≤ 100000) :
    Calls Tryz.prog 14 #[.agg #[.int .i64 (k : Int), .int .i64 f, .int .i64 t, .string S, .int .i32 r, .bool sg]] w fun e w' => e = .returned (.string ⟨(printB k f t S.data.toList r sg).toArray⟩) ∧ Below w.heap.size w w' := by
  obtain ⟨W1, hW1⟩ : ∃ W, w.alloc (.cells #[.int .i64 (k : Int), .int .i64 f, .int .i64 t, .string S, .int .i32 r, .bool sg] 30) = W := ⟨_, rfl⟩
  have b1 : Below w.heap.size w W1 := by rw [← hW1]; exact below_new _ _
  have x1 : Cells W1 w.heap.size 30 #[.int .i64 (k : Int), .int .i64 f, .int .i64 t, .string S, .int .i32 r, .bool sg] := by rw [← hW1]; exact cells_new _ _ _
  have p0 := x1.cell 0
  have p1 := x1.cell 1
  have p2 := x1.cell 2
  simp at p0 p1 p2
  have r0 := cell_regrown p0
  have r1 := cell_regrown p1
  have r2 := cell_regrown p2
  have KK := fun W => Kind_any k h W
  have hne := kindB_ne k h
  have hlk := kindB_len k h
  have hls := scT_len r hr.1 hr.2
  obtain ⟨KB, hKB⟩ : ∃ l, kindB k = l := ⟨_, rfl⟩
  obtain ⟨IF, hIF⟩ : ∃ l, itoa f = l := ⟨_, rfl⟩
  obtain ⟨IT, hIT⟩ : ∃ l, itoa t = l := ⟨_, rfl⟩
  have hk8 : (k : Int) < 8 := by omega
  obtain ⟨RES, hRES⟩ : ∃ l, printB k f t S.data.toList r sg = l := ⟨_, rfl⟩
  rw [hRES]
  unfold printB at hRES
  rw [hKB, hIF, hIT] at hRES
  unfold ItoaAt at hf ht
  rw [hIF] at hf
  rw [hIT] at ht
  rw [hKB] at KK hne hlk
  rw [hIF] at hlf
  rw [hIT] at hlt
  have DF : ∀ d os, Calls Tryz.prog 20 #[.int .i64 f] (grow (redrawn W1 d) os) fun e w'' => e = .returned (.string ⟨IF.toArray⟩) ∧ ∃ p : Regrown, w'' = grow (redrawn W1 p.d) p.os := fun d os =>
    Calls.regrown_of (hf _ (b1.trans ((below_regrown W1 d os).mono b1.size)))
  have DT : ∀ d os, Calls Tryz.prog 20 #[.int .i64 t] (grow (redrawn W1 d) os) fun e w'' => e = .returned (.string ⟨IT.toArray⟩) ∧ ∃ p : Regrown, w'' = grow (redrawn W1 p.d) p.os := fun d os =>
    Calls.regrown_of (ht _ (b1.trans ((below_regrown W1 d os).mono b1.size)))
  obtain ⟨KS, hKS⟩ : ∃ Z : ByteArray, ⟨KB.toArray⟩ = Z := ⟨_, rfl⟩
  rw [hKS] at KK
  have hSn : (KS.toList == ([] : List UInt8)) = false := by
    rw [← hKS]
    cases KB with
    | nil => exact absurd rfl hne
    | cons c l => simp
  have hSn2 : (KS = ⟨#[]⟩) = False := by
    rw [← hKS]
    simp only [eq_iff_iff, iff_false]
    intro e
    apply hne
    have := congrArg (fun z => z.data.toList) e
    simpa using this
  have hSn3 : decide (KS = ⟨#[]⟩) = false := by rw [decide_eq_false_iff_not, hSn2]; exact id
  obtain ⟨SF, hSF⟩ : ∃ Z : ByteArray, ⟨IF.toArray⟩ = Z := ⟨_, rfl⟩
  obtain ⟨ST, hST⟩ : ∃ Z : ByteArray, ⟨IT.toArray⟩ = Z := ⟨_, rfl⟩
  have z1 : KS.size ≤ 7 := by rw [← hKS]; exact hlk
  have z2 : SF.size ≤ 30 := by rw [← hSF]; exact hlf
  have z3 : ST.size ≤ 30 := by rw [← hST]; exact hlt
  rw [hSF] at DF
  rw [hST] at DT
  have HH := Lib.hid (And.intro hRES (And.intro b1 (And.intro x1 (And.intro hT (And.intro hKS (And.intro hSF (And.intro hST hr)))))))
  clear hRES b1 x1 hT hKS hSF hST hr hf ht hKB hIF hIT hne hlk hlf hlt
  go_enter Tryz.func14, Tryz.ntmps14
  go_wp2_with fail
  refine (KK W1).mono ?_
  rintro e w2 ⟨rfl, hw⟩
  rw [hw]
  clear hw KK
  go_wp2_with fail
  refine wp_region_quiet_below (by kernel_rfl) (by kernel_rfl) ?_
  repeat (go_big_quiet_step (with_reducible first | exact DF _ _ | exact DT _ _))
  refine wpQuiet_nil ?_
  intro _ hw'
  obtain ⟨⟨dq, osq⟩, hw''⟩ := hw'
  subst hw''
  obtain ⟨W2, hW2⟩ : ∃ W, grow (redrawn W1 dq) osq = W := ⟨_, rfl⟩
  have b12 : Below W1.heap.size W1 W2 := by rw [← hW2]; exact below_regrown W1 dq osq
  have hW2' : grow (redrawn W1 { d := dq, os := osq : Regrown }.d) { d := dq, os := osq : Regrown }.os = W2 := hW2
  have x2 := HH.out.2.2.1.on b12
  have b2 := HH.out.2.1.trans (b12.mono HH.out.2.1.size)
  have q0 := x2.cell 0
  have q3 := x2.cell 3
  have q4 := x2.cell 4
  have q5 := x2.cell 5
  simp at q0 q3 q4 q5
  have HB := Lib.hid b2
  have HS := Lib.hid (P.sp_any r HH.out.2.2.2.2.2.2.2.1 HH.out.2.2.2.2.2.2.2.2 W2 (P.TZ.below HH.out.2.2.2.1 b2))
  clear DF DT x2 b2 b12 p0 p1 p2 r0 r1 r2
  simp only [hW2]
  clear hW2 hW2'
  have HR := Lib.hid HH.out.1
  have hKS := HH.out.2.2.2.2.1
  have hSF := HH.out.2.2.2.2.2.1
  have hST := HH.out.2.2.2.2.2.2.1
  have HK := Lib.hid (And.intro hKS (And.intro hSF hST))
  clear hKS hSF hST
  obtain rfl | rfl | rfl | rfl | rfl | rfl | rfl | rfl : k = 0 ∨ k = 1 ∨ k = 2 ∨ k = 3 ∨ k = 4 ∨ k = 5 ∨ k = 6 ∨ k = 7 := by omega
  · clear hk8 h
    go_wp2_with fail
    go_ret
    refine ⟨?_, HB.out⟩
    rw [← HR.out, ← HK.out.1, ← HK.out.2.1, ← HK.out.2.2]
    simp [ByteArray.ext_iff]
  · clear hk8 h
    obtain ⟨SC, hSC⟩ : ∃ Z : ByteArray, ⟨(P.scT r).toArray⟩ = Z := ⟨_, rfl⟩
    have z4 : SC.size ≤ 30 := by rw [← hSC]; exact hls
    have C := HS.out
    rw [hSC] at C
    have HC := Lib.hid (And.intro C hSC)
    clear C hSC hls
    go_wp2_with fail
    refine HC.out.1.mono ?_
    rintro e w3 ⟨rfl, hb3⟩
    have HB3 := Lib.hid (HB.out.trans (hb3.mono HB.out.size))
    clear hb3
    go_wp2_with fail
    go_ret
    refine ⟨?_, HB3.out⟩
    rw [← HR.out, ← HC.out.2, ← HK.out.1, ← HK.out.2.1, ← HK.out.2.2]
    simp [ByteArray.ext_iff]
  · clear hk8 h
    cases sg with
    | false =>
      go_wp2_with fail
      go_ret
      refine ⟨?_, HB.out⟩
      rw [← HR.out, ← HK.out.1, ← HK.out.2.1, ← HK.out.2.2]
      simp [ByteArray.ext_iff]
    | true =>
      go_wp2_with fail
      go_ret
      refine ⟨?_, HB.out⟩
      rw [← HR.out, ← HK.out.1, ← HK.out.2.1, ← HK.out.2.2]
      simp [ByteArray.ext_iff]
  · clear hk8 h
    cases sg with
    | false =>
      go_wp2_with fail
      go_ret
      refine ⟨?_, HB.out⟩
      rw [← HR.out, ← HK.out.1, ← HK.out.2.1, ← HK.out.2.2]
      simp [ByteArray.ext_iff]
    | true =>
      go_wp2_with fail
      go_ret
      refine ⟨?_, HB.out⟩
      rw [← HR.out, ← HK.out.1, ← HK.out.2.1, ← HK.out.2.2]
      simp [ByteArray.ext_iff]
  · clear hk8 h
    go_wp2_with fail
    go_ret
    refine ⟨?_, HB.out⟩
    rw [← HR.out, ← HK.out.1, ← HK.out.2.1, ← HK.out.2.2]
    simp [ByteArray.ext_iff]
  · clear hk8 h
    go_wp2_with fail
    go_ret
    refine ⟨?_, HB.out⟩
    rw [← HR.out, ← HK.out.1, ← HK.out.2.1, ← HK.out.2.2]
    simp [ByteArray.ext_iff]
  · clear hk8 h
    go_wp2_with fail
    go_ret
    refine ⟨?_, HB.out⟩
    rw [← HR.out, ← HK.out.1, ← HK.out.2.1, ← HK.out.2.2]
    simp [ByteArray.ext_iff]
  · clear hk8 h
    go_wp2_with fail
    go_ret
    refine ⟨?_, HB.out⟩
    rw [← HR.out, ← HK.out.1, ← HK.out.2.1, ← HK.out.2.2]
    simp [ByteArray.ext_iff]
end Go.Proofs.YtnedjafpjbfncaaGreatDoor

namespace Go.Proofs.YtnedjafpjbfncaaGreatDoor
open Go.RowKit Go.Shelf Go.Lib Go.Maps Go.Great

def aw : List Nat := [97, 60, 98, 62, 38, 108, 116, 59]
set_option maxRecDepth 100000 in
theorem aw0 : markT aw 0 = none := by kernel_rfl
set_option maxRecDepth 100000 in
theorem aw1 : markT aw 1 = some ⟨2, 1, 4, [98], 0, false⟩ := by kernel_rfl
set_option maxRecDepth 100000 in
theorem aw4 : markT aw 4 = some ⟨1, 4, 8, [], 60, false⟩ := by kernel_rfl
def aw_l : List TK := [⟨0, 0, 1, [], 0, false⟩, ⟨2, 1, 4, [98], 0, false⟩, ⟨1, 4, 8, [], 60, false⟩]
theorem aw_each : eachL aw = aw_l := by
  have h1 : rawT aw ⟨2, 1, 4, [98], 0, false⟩ = 4 := by kernel_rfl
  have h2 : rawT aw ⟨1, 4, 8, [], 60, false⟩ = 8 := by kernel_rfl
  have m : marksL aw 0 = [⟨2, 1, 4, [98], 0, false⟩, ⟨1, 4, 8, [], 60, false⟩] := by
    rw [marksL_none (by decide) aw0, marksL_some (by decide) aw1]
    unfold rawTok
    rw [h1, if_neg (by decide), marksL_some (by decide) aw4]
    unfold rawTok
    rw [h2, if_neg (by decide), marksL_end (by decide)]
    rfl
  unfold eachL
  rw [m]
  rfl
theorem aw_p0 : printB 0 ((0 : Nat) : Int) ((1 : Nat) : Int) [] 0 false = [116, 101, 120, 116, 32, 48, 32, 49] := by decide +kernel
theorem aw_p1 : printB 2 ((1 : Nat) : Int) ((4 : Nat) : Int) [98] 0 false = [115, 116, 97, 114, 116, 32, 49, 32, 52, 32, 98] := by decide +kernel
theorem aw_p2 : printB 1 ((4 : Nat) : Int) ((8 : Nat) : Int) [] 60 false = [114, 101, 102, 32, 52, 32, 56, 32, 85, 43, 48, 48, 51, 67] := by decide +kernel
theorem itoa_small (i : Nat) (hi : i < 100) (w : World) : ItoaAt w (i : Int) := fun W _ => (Tryz.strconv_Itoa_small i hi W).mono fun e w' h => by
  obtain ⟨rfl, rfl⟩ := h
  refine ⟨?_, Below.refl _ _⟩
  unfold itoa
  rw [if_neg (by omega), Int.toNat_natCast]
theorem itoa_slen (i : Nat) (hi : i < 10) : (itoa (i : Int)).length ≤ 30 := by
  obtain rfl | rfl | rfl | rfl | rfl | rfl | rfl | rfl | rfl | rfl : i = 0 ∨ i = 1 ∨ i = 2 ∨ i = 3 ∨ i = 4 ∨ i = 5 ∨ i = 6 ∨ i = 7 ∨ i = 8 ∨ i = 9 := by omega
  all_goals decide +kernel
end Go.Proofs.YtnedjafpjbfncaaGreatDoor

namespace Go.Proofs.YtnedjafpjbfncaaGreatDoor
open Go.RowKit Go.Shelf Go.Lib Go.Maps Go.Great

theorem by_lit (w : World) (l : List Nat) (fr : Nat × Nat) (hl : ∀ x ∈ l, x < 256) (hn : l.length ≤ 100) : BY (w.alloc (.cells (u8C l).toArray 5 fr)) (w.alloc (.cells (u8C l).toArray 5 fr)).heap.size l (some ⟨w.heap.size, 0, none⟩) l.length :=
  ⟨Nat.le_refl _, by unfold maxLen; omega, fun e => (by cases e), hl, fun _ => ⟨w.heap.size, 0, rfl, by simp, fun i x hx => by
    rw [Nat.zero_add, World.cell?_alloc_mark w _ _ _ _]
    simp [u8C, hx]⟩⟩
set_option maxHeartbeats 4000000 in
set_option maxRecDepth 100000 in
theorem awake_any (w : World) (hM : G.MX w) (hT : S.Tabs w) (hZ : P.TZ w) : Calls Tryz.prog 8 #[] w fun r w' => r = .returned (.bool true) ∧ Below w.heap.size w w' := by
  obtain ⟨W1, hW1⟩ : ∃ W, w.alloc (.cells #[.int .u8 97, .int .u8 60, .int .u8 98, .int .u8 62, .int .u8 38, .int .u8 108, .int .u8 116, .int .u8 59] 5 (8, 9)) = W := ⟨_, rfl⟩
  have b1 : Below w.heap.size w W1 := by rw [← hW1]; exact below_new _ _
  have y1 : BY W1 W1.heap.size aw (some ⟨w.heap.size, 0, none⟩) 8 := by
    rw [← hW1]
    exact by_lit w aw (8, 9) (by decide) (by decide)
  have v1 : (convert 22 22 (.slice (some ⟨w.heap.size, 0, none⟩) 8 8)).run Tryz.prog (w.alloc (.cells #[.int .u8 97, .int .u8 60, .int .u8 98, .int .u8 62, .int .u8 38, .int .u8 108, .int .u8 116, .int .u8 59] 5)) = .ok (.slice (some ⟨w.heap.size, 0, none⟩) 8 8) W1 := by
    rw [← hW1]
    exact Lib.run_convert_bytes_const w 22 5 _ 8 8 Tryz.underlying22 Tryz.underlying5
  have CA := All_any aw (some ⟨w.heap.size, 0, none⟩) 8 W1 y1 (by decide) (hM.on hM.pos b1) (hT.below b1 (by have := hT.2; omega))
  rw [aw_each] at CA
  have C0 : ∀ W, Below w.heap.size w W → Calls Tryz.prog 14 #[.agg #[.int .i64 0, .int .i64 0, .int .i64 1, .string ⟨#[]⟩, .int .i32 0, .bool false]] W fun e w' => e = .returned (.string ⟨#[116, 101, 120, 116, 32, 48, 32, 49]⟩) ∧ Below W.heap.size W w' := fun W hb => by
    have := Print_any 0 (by decide) ((0 : Nat) : Int) ((1 : Nat) : Int) ⟨#[]⟩ 0 (by decide) false W (itoa_small 0 (by decide) W) (itoa_small 1 (by decide) W) (hZ.below hb) (itoa_slen 0 (by decide)) (itoa_slen 1 (by decide)) (by decide)
    rw [show (⟨#[]⟩ : ByteArray).data.toList = [] from rfl, aw_p0] at this
    exact this
  have C1 : ∀ W, Below w.heap.size w W → Calls Tryz.prog 14 #[.agg #[.int .i64 2, .int .i64 1, .int .i64 4, .string ⟨#[98]⟩, .int .i32 0, .bool false]] W fun e w' => e = .returned (.string ⟨#[115, 116, 97, 114, 116, 32, 49, 32, 52, 32, 98]⟩) ∧ Below W.heap.size W w' := fun W hb => by
    have := Print_any 2 (by decide) ((1 : Nat) : Int) ((4 : Nat) : Int) ⟨#[98]⟩ 0 (by decide) false W (itoa_small 1 (by decide) W) (itoa_small 4 (by decide) W) (hZ.below hb) (itoa_slen 1 (by decide)) (itoa_slen 4 (by decide)) (by decide)
    rw [show (⟨#[98]⟩ : ByteArray).data.toList = [98] from rfl, aw_p1] at this
    exact this
  have C2 : ∀ W, Below w.heap.size w W → Calls Tryz.prog 14 #[.agg #[.int .i64 1, .int .i64 4, .int .i64 8, .string ⟨#[]⟩, .int .i32 60, .bool false]] W fun e w' => e = .returned (.string ⟨#[114, 101, 102, 32, 52, 32, 56, 32, 85, 43, 48, 48, 51, 67]⟩) ∧ Below W.heap.size W w' := fun W hb => by
    have := Print_any 1 (by decide) ((4 : Nat) : Int) ((8 : Nat) : Int) ⟨#[]⟩ 60 (by decide) false W (itoa_small 4 (by decide) W) (itoa_small 8 (by decide) W) (hZ.below hb) (itoa_slen 4 (by decide)) (itoa_slen 8 (by decide)) (by decide)
    rw [show (⟨#[]⟩ : ByteArray).data.toList = [] from rfl, aw_p2] at this
    exact this
  have HH := Lib.hid (And.intro CA (And.intro b1 (And.intro C0 (And.intro C1 C2))))
  clear CA b1 C0 C1 C2 y1 hW1 hM hT hZ
  go_enter Tryz.func8, Tryz.ntmps8
  go_wp2_with fail
  refine HH.out.1.mono ?_
  rintro r w2 ⟨v, rfl, ho, hb2⟩
  have b2 := HH.out.2.1.trans (hb2.mono HH.out.2.1.size)
  have HC := @World.ownsRow.cells _ _ _ _ _ _ _ ho
  obtain ⟨g, cap, rfl, hb, hlt⟩ := World.ownsRow.form ho (by decide)
  have hc := HC (g := g) rfl
  have k0 : w2.cell? ⟨g, 0, none⟩ = some (.int .i64 0) := hc 0 _ rfl
  have k1 : w2.cell? ⟨g, 1, none⟩ = some (.int .i64 0) := hc 1 _ rfl
  have k2 : w2.cell? ⟨g, 2, none⟩ = some (.int .i64 1) := hc 2 _ rfl
  have k3 : w2.cell? ⟨g, 3, none⟩ = some (.string ⟨#[]⟩) := hc 3 _ rfl
  have k4 : w2.cell? ⟨g, 4, none⟩ = some (.int .i32 0) := hc 4 _ rfl
  have k5 : w2.cell? ⟨g, 5, none⟩ = some (.bool false) := hc 5 _ rfl
  have k6 : w2.cell? ⟨g, 6, none⟩ = some (.int .i64 2) := hc 6 _ rfl
  have k7 : w2.cell? ⟨g, 7, none⟩ = some (.int .i64 1) := hc 7 _ rfl
  have k8 : w2.cell? ⟨g, 8, none⟩ = some (.int .i64 4) := hc 8 _ rfl
  have k9 : w2.cell? ⟨g, 9, none⟩ = some (.string ⟨#[98]⟩) := hc 9 _ rfl
  have k10 : w2.cell? ⟨g, 10, none⟩ = some (.int .i32 0) := hc 10 _ rfl
  have k11 : w2.cell? ⟨g, 11, none⟩ = some (.bool false) := hc 11 _ rfl
  have k12 : w2.cell? ⟨g, 12, none⟩ = some (.int .i64 1) := hc 12 _ rfl
  have k13 : w2.cell? ⟨g, 13, none⟩ = some (.int .i64 4) := hc 13 _ rfl
  have k14 : w2.cell? ⟨g, 14, none⟩ = some (.int .i64 8) := hc 14 _ rfl
  have k15 : w2.cell? ⟨g, 15, none⟩ = some (.string ⟨#[]⟩) := hc 15 _ rfl
  have k16 : w2.cell? ⟨g, 16, none⟩ = some (.int .i32 60) := hc 16 _ rfl
  have k17 : w2.cell? ⟨g, 17, none⟩ = some (.bool false) := hc 17 _ rfl
  have HB := Lib.hid (And.intro b2 hlt)
  clear hc HC ho hb2 b2 hb
  have x1 : aw_l.length = 3 := rfl
  rw [x1]
  go_wp2_with fail
  refine (HH.out.2.2.1 w2 HB.out.1).mono ?_
  rintro r w3 ⟨rfl, hb3⟩
  have b3 := HB.out.1.trans (hb3.mono HB.out.1.size)
  clear k0
  clear k1
  clear k2
  clear k3
  clear k4
  clear k5
  replace k6 := (hb3.cell (p := ⟨g, 6, none⟩) HB.out.2).trans k6
  replace k7 := (hb3.cell (p := ⟨g, 7, none⟩) HB.out.2).trans k7
  replace k8 := (hb3.cell (p := ⟨g, 8, none⟩) HB.out.2).trans k8
  replace k9 := (hb3.cell (p := ⟨g, 9, none⟩) HB.out.2).trans k9
  replace k10 := (hb3.cell (p := ⟨g, 10, none⟩) HB.out.2).trans k10
  replace k11 := (hb3.cell (p := ⟨g, 11, none⟩) HB.out.2).trans k11
  replace k12 := (hb3.cell (p := ⟨g, 12, none⟩) HB.out.2).trans k12
  replace k13 := (hb3.cell (p := ⟨g, 13, none⟩) HB.out.2).trans k13
  replace k14 := (hb3.cell (p := ⟨g, 14, none⟩) HB.out.2).trans k14
  replace k15 := (hb3.cell (p := ⟨g, 15, none⟩) HB.out.2).trans k15
  replace k16 := (hb3.cell (p := ⟨g, 16, none⟩) HB.out.2).trans k16
  replace k17 := (hb3.cell (p := ⟨g, 17, none⟩) HB.out.2).trans k17
  have HB3 := Lib.hid (And.intro b3 (Nat.lt_of_lt_of_le HB.out.2 hb3.size))
  clear b3 hb3 hlt
  go_wp2_with fail
  refine (HH.out.2.2.2.1 w3 HB3.out.1).mono ?_
  rintro r w4 ⟨rfl, hb4⟩
  have b4 := HB3.out.1.trans (hb4.mono HB3.out.1.size)
  clear k6
  clear k7
  clear k8
  clear k9
  clear k10
  clear k11
  replace k12 := (hb4.cell (p := ⟨g, 12, none⟩) HB3.out.2).trans k12
  replace k13 := (hb4.cell (p := ⟨g, 13, none⟩) HB3.out.2).trans k13
  replace k14 := (hb4.cell (p := ⟨g, 14, none⟩) HB3.out.2).trans k14
  replace k15 := (hb4.cell (p := ⟨g, 15, none⟩) HB3.out.2).trans k15
  replace k16 := (hb4.cell (p := ⟨g, 16, none⟩) HB3.out.2).trans k16
  replace k17 := (hb4.cell (p := ⟨g, 17, none⟩) HB3.out.2).trans k17
  have HB4 := Lib.hid b4
  clear b4 hb4
  go_wp2_with fail
  refine (HH.out.2.2.2.2 w4 HB4.out).mono ?_
  rintro r w5 ⟨rfl, hb5⟩
  have HB5 := Lib.hid (HB4.out.trans (hb5.mono HB4.out.size))
  clear hb5
  go_wp2_with fail
  go_ret
  exact ⟨rfl, HB5.out⟩
end Go.Proofs.YtnedjafpjbfncaaGreatDoor

namespace Go.Proofs.YtnedjafpjbfncaaGreatDoor
open Go.ChangeShapes Go.WideShapes Go.ChangeAt Go.RowKit Go.Shelf
open Go.Lib

theorem own : ownKnob Tryz.prog.godebug = none := by kernel_rfl
theorem laidOut : laidOutB Tryz.prog = true := by kernel_rfl
theorem cells5 : Tryz.prog.cellsOf 5 = 1 := by kernel_rfl
theorem cells3 : Tryz.prog.cellsOf 3 = 1 := by kernel_rfl
theorem getD_ofI {l : List Int} {i : Nat} {x : Int} (h : l[i]? = some x) : l.getD i 0 = x := by simp [List.getD_eq_getElem?_getD, h]
set_option maxRecDepth 100000 in
/-- An argument that is a slice of bytes. -/
theorem by_of_arg {H : Type} {enc : TypeId × Value → H} {W : World} {b0 : Nat} {v : Value} {d : DataW H} {p : List MemPlace} (hv : Value.okWide Tryz.prog W .any b0 22 v) (h : DataW.Trod enc Tryz.prog W 0 (fun _ => true) true 22 v d p) :
    ∃ (xs : List Nat) (A : Option Addr) (cap : Nat), v = .slice A xs.length cap ∧ BY W W.heap.size xs A cap := by
  obtain ⟨a, len, cap, rfl⟩ := okWide_slice Tryz.underlying22 hv
  obtain ⟨fuel, hf⟩ := h
  rcases open_ints Tryz.underlying22 Tryz.underlying5 cells5 hf with ⟨hcs, _⟩ | ⟨x, l, c, zs, hcs, _, hl, hm, hz, _, hcell, hwz⟩
  · simp [Value.cells] at hcs
    obtain ⟨rfl, rfl, rfl⟩ := hcs
    exact ⟨[], none, 0, rfl, ⟨Nat.le_refl _, Nat.zero_le _, fun _ => rfl, fun x hx => absurd hx (by simp), fun hn => absurd rfl hn⟩⟩
  · simp [Value.cells] at hcs
    obtain ⟨rfl, rfl, rfl⟩ := hcs
    have hz : zs.length = cap := by simpa using hz
    have hb : ∀ z ∈ zs, 0 ≤ z ∧ z < 256 := fun z hzz => by
      have := hwz z hzz
      simp [Lit.wf, IntKind.min, IntKind.max, IntKind.signed, IntKind.bits] at this
      omega
    have hlen : ((zs.take len).map Int.toNat).length = len := by simp; omega
    refine ⟨(zs.take len).map Int.toNat, some x, cap, by rw [hlen], ⟨by rw [hlen]; exact hl, hm, fun e => (by cases e), fun y hy => ?_, fun hn => ?_⟩⟩
    · obtain ⟨z, hz1, rfl⟩ := List.mem_map.1 hy
      have := hb z (List.mem_of_mem_take hz1)
      omega
    · have h0 : 0 < len := by
        rcases Nat.eq_zero_or_pos len with e | e
        · subst e; exact absurd rfl hn
        · exact e
      have hc := hcell 0 (by omega)
      obtain ⟨b, off, spot⟩ := x
      have hspot : spot = none := by simpa [Addr.add] using World.cell?_spot hc
      subst hspot
      have hc0 : W.cell? ⟨b, off, none⟩ = some (.int .u8 (zs.getD 0 0)) := by simpa [Addr.add] using hc
      refine ⟨b, off, rfl, block_lt_of_cell hc0, fun i y hy => ?_⟩
      have hi : i < len := by have := (List.getElem?_eq_some_iff.1 hy).1; omega
      have hci := hcell i (by omega)
      rw [Addr.add_lit] at hci
      rw [List.getElem?_map, List.getElem?_take, if_pos hi] at hy
      cases e : zs[i]? with
      | none => rw [e] at hy; simp at hy
      | some z =>
        rw [e] at hy
        simp at hy
        have hzb := hb z (List.mem_of_getElem? e)
        rw [getD_ofI e] at hci
        rw [hci, ← hy]
        congr 2
        omega

/-- A row that lists variables, over a world that is shaped. -/
theorem handed_laid {H : Type} {enc : TypeId × Value → H} {a : Assume} {C : Checked} {os : Os} {f : FuncId} {fn : Func} {s : ChangeSpec} {conds : List PathCond} {apart fresh handsOn again : Bool} {X : World → Array Value → Prop}
    (hX : ∀ (w w' : World) (args : Array Value), w.heap = w'.heap → X w args → X w' args)
    (own : ownKnob C.prog.godebug = none) (started : os.Started) (noInit : C.prog.inits.idxOf? f = none) (hfn : C.prog.funcs[f]? = some fn)
    (witness : ∃ (w : World) (tape : Tape) (i : Input), w.os = os ∧ (w.forCall tape i).Shaped C.prog ∧ i.vars = [] ∧ Input.okWide C.prog (w.forCall tape i) .any w.heap.size f i ∧
      ((s.pre enc C.prog fn conds apart (w.forCall tape i).memory i.args ∧ X (w.forCall tape i).memory i.args) ∧ sizedMet enc C.prog fn (OpenSpec.ofChange s) apart (w.forCall tape i).memory i.args) ∧ a.holds C.prog (lone (Frame.enter C.prog f i.args .normal) [] (w.forCall tape i)))
    (walk : ∀ (W : World) (base : Nat) (args : Array Value) (ds gs : List (DataW H)) (before : List MemPlace), W.ShapedOpen C.prog →
      (∀ (j : Nat) t v, fn.params[j]? = some t → args[j]? = some v → Value.okWide C.prog W .any base t v) →
      DataW.Whole enc C.prog fn.params.toList s.vars apart W args.toList ds gs before → X W args →
      (DataW.weightsEach C.prog (fn.params.toList ++ s.plain.varTypes C.prog) (ds ++ gs)).all (· ≤ reachBytes) = true →
      Calls C.prog f args W fun e W' => ∃ v, e = .returned v ∧ s.post enc C.prog fn apart fresh handsOn again W args v W') :
    ReturnsInHanded a C os f .any (fun w args => (s.pre enc C.prog fn conds apart w args ∧ X w args) ∧ sizedMet enc C.prog fn (OpenSpec.ofChange s) apart w args) (s.post enc C.prog fn apart fresh handsOn again) :=
  returnsInHanded_of_calls own started noInit witness fun w tape i _ hsh _ hok hpre _ => by
    obtain ⟨_, _, _, fn', hfn', _, _, _, _, hval⟩ := hok
    cases hfn.symm.trans hfn'
    obtain ⟨⟨⟨ds, gs, before, hw, _⟩, hx⟩, hz⟩ := hpre
    refine (walk (w.forCall tape i) w.heap.size i.args ds gs before hsh hval (DataW.Whole.of_heap (w' := w.forCall tape i) (by rfl) hw) (hX _ _ _ (by rfl) hx) (hz.weights hw)).mono ?_
    rintro e W' ⟨v, rfl, hp⟩
    exact ChangeSpec.post_blind hp

def laidAll8 : List (String × DataW Unit) := [("math/bits.deBruijn32tab", Rows.laid_math_bits_deBruijn32tab), ("math/bits.deBruijn64tab", Rows.laid_math_bits_deBruijn64tab), ("internal/strconv.uint64pow10", Rows.laid_internal_strconv_uint64pow10), ("unicode/utf8.acceptRanges", Rows.laid_unicode_utf8_acceptRanges), ("strconv.ErrRange", Rows.laid_strconv_ErrRange), ("strconv.ErrSyntax", Rows.laid_strconv_ErrSyntax), ("unicode.CaseRanges", Rows.laid_unicode_CaseRanges), ("unicode/utf8.first", Rows.laid_unicode_utf8_first)]
theorem acc_eq : (Rows.laid_unicode_utf8_acceptRanges : DataW Unit) = acceptData := by kernel_rfl
theorem gFirst : Tryz.prog.globalNamed "unicode/utf8.first" = some 3 := by kernel_rfl
theorem gAccept : Tryz.prog.globalNamed "unicode/utf8.acceptRanges" = some 4 := by kernel_rfl
theorem yFirst : (Tryz.prog.globals[3]?).map (·.type) = some 159 := by kernel_rfl
theorem yAccept : (Tryz.prog.globals[4]?).map (·.type) = some 162 := by kernel_rfl
theorem cells159 : Tryz.prog.cellsOf 159 = 256 := by kernel_rfl
theorem cells161 : Tryz.prog.cellsOf 161 = 2 := by kernel_rfl

theorem tabs_of_reads {w : World} (h3 : VarReads Tryz.prog w "unicode/utf8.first" Rows.laid_unicode_utf8_first) (h4 : VarReads Tryz.prog w "unicode/utf8.acceptRanges" Rows.laid_unicode_utf8_acceptRanges) : S.Tabs w := by
  have e3 : Rows.laid_unicode_utf8_first = firstData := Pinned.utf8First_eq
  rw [e3] at h3
  rw [acc_eq] at h4
  have hU : Utf8Tabs 3 4 w := by
    refine ⟨fun c hc => ?_, fun i hi => ?_⟩
    · obtain ⟨g, t, cs, fuel, p, hg, hty, hvar, hd⟩ := h3
      obtain rfl := Option.some.inj (gFirst.symm.trans hg)
      obtain rfl := Option.some.inj (yFirst.symm.trans hty)
      have hcs := cells_of_tab Tryz.underlying159 Tryz.underlying5 cells5 cells159 hd
      have := World.var?_cell hg hvar c
      rw [this, ← Array.getElem?_toList, hcs]
      simp [firstTab, hc]
    · obtain ⟨g, t, cs, fuel, p, hg, hty, hvar, hd⟩ := h4
      obtain rfl := Option.some.inj (gAccept.symm.trans hg)
      obtain rfl := Option.some.inj (yAccept.symm.trans hty)
      obtain ⟨fuel', d, q, hdi, he⟩ := array_elem Tryz.underlying162 hd i hi
      simp only [List.getElem?_map, List.getElem?_range hi, Option.map_some, Option.some.injEq] at hdi
      subst hdi
      rw [cells161] at he
      have hcs := ints_of_struct Tryz.underlying161 (fun j f hj => by
        match j, hj with
        | 0, hj => simp at hj; subst hj; exact ⟨Tryz.underlying5, rfl, cells5⟩
        | 1, hj => simp at hj; subst hj; exact ⟨Tryz.underlying5, rfl, cells5⟩
        | j + 2, hj => simp at hj) (by rw [cells161]; rfl) he
      have e0 := congrArg (·[0]?) hcs
      have e1 := congrArg (·[1]?) hcs
      simp only [List.getElem?_take, List.getElem?_drop] at e0 e1
      constructor
      · rw [World.var?_cell hg hvar (2 * i), ← Array.getElem?_toList]
        simpa [Nat.mul_comm] using e0
      · rw [World.var?_cell hg hvar (2 * i + 1), ← Array.getElem?_toList]
        simpa [Nat.mul_comm] using e1
  exact ⟨hU, block_lt_of_cell (hU.2 0 (by omega)).1⟩

def bruijn64 : List Int := Lib.deBruijn64tab.map fun (n : Nat) => (n : Int)
theorem bruijn_eq : (Rows.laid_math_bits_deBruijn64tab : DataW Unit) = tabData .u8 bruijn64 := by kernel_rfl
theorem gBruijn : Tryz.prog.globalNamed "math/bits.deBruijn64tab" = some 6 := by kernel_rfl
theorem yBruijn : (Tryz.prog.globals[6]?).map (·.type) = some 177 := by kernel_rfl
theorem cells177 : Tryz.prog.cellsOf 177 = 64 := by kernel_rfl
theorem tz_of_reads {w : World} (h : VarReads Tryz.prog w "math/bits.deBruijn64tab" Rows.laid_math_bits_deBruijn64tab) : P.TZ w := by
  rw [bruijn_eq] at h
  obtain ⟨g, t, cs, fuel, p, hg, hty, hvar, hd⟩ := h
  obtain rfl := Option.some.inj (gBruijn.symm.trans hg)
  obtain rfl := Option.some.inj (yBruijn.symm.trans hty)
  have hcs := cells_of_tab Tryz.underlying177 Tryz.underlying5 cells5 cells177 hd
  have h1 := World.var?_cell hg hvar 15
  rw [← Array.getElem?_toList, hcs] at h1
  have h2 : w.cell? ⟨6, 15, none⟩ = some (.int .u8 4) := h1.trans rfl
  exact ⟨h2, block_lt_of_cell h2⟩

def PT (w : World) : Prop := Lib.TabIs Tryz.prog w "internal/strconv.uint64pow10" .u64 Lib.pow10Tab
theorem cells103 : Tryz.prog.cellsOf 103 = 1 := by kernel_rfl
theorem gPow : Tryz.prog.globalNamed "internal/strconv.uint64pow10" = some 0 := by kernel_rfl
theorem pow_eq : (Rows.laid_internal_strconv_uint64pow10 : DataW Unit) = tabData .u64 Lib.pow10Tab := by kernel_rfl
theorem cells135 : Tryz.prog.cellsOf 135 = 20 := by kernel_rfl
theorem yPow : (Tryz.prog.globals[0]?).map (·.type) = some 135 := by kernel_rfl
theorem pt_of_reads {w : World} (h : VarReads Tryz.prog w "internal/strconv.uint64pow10" Rows.laid_internal_strconv_uint64pow10) : PT w := by
  rw [pow_eq] at h
  obtain ⟨g, t, cs, fuel, p, hg, hty, hvar, hd⟩ := h
  obtain rfl := Option.some.inj (gPow.symm.trans hg)
  obtain rfl := Option.some.inj (yPow.symm.trans hty)
  have hcs := cells_of_tab Tryz.underlying135 Tryz.underlying103 cells103 cells135 hd
  unfold PT Lib.TabIs
  rw [hvar, ← hcs]

theorem mx_of_shape {w : World} (h : w.ShapedOpen Tryz.prog) : G.MX w := by
  obtain ⟨m, hm⟩ := cell_of_shapedOpen_int (g := 2) (t := 3) (zero := #[.int .i64 0]) (k := .i64) h (of_decide_eq_true (by kernel_rfl)) (by kernel_rfl) rfl (by kernel_rfl) (by kernel_rfl) Tryz.underlying3
  exact ⟨m, hm⟩

end Go.Proofs.YtnedjafpjbfncaaGreatDoor

