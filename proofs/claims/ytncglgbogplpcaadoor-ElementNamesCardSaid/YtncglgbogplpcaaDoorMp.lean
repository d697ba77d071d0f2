/-
  A map from names to what they are.
-/
import Derived.Test.YtncglgbogplpcaaDoorOf
import Derived.StringKeys
import Derived.Maps.RangeWalk
namespace Go.Proofs.YtncglgbogplpcaaDoor
open Go.RowKit Go.Shelf Go.Lib Go.Maps

theorem keyed9 : Keyed Tryd.prog 9 := string_keyed Tryd.underlying9
/-- What a map's content says of names. -/
def EmD (D : DataW Value) (f : List UInt8 → Nat) : Prop := ∀ x : List UInt8, (f x ≠ 0 → Maps.has D (.string x) = true ∧ ∀ z, D.atKey (.string x) z = .lit (.int .i64 (f x : Int))) ∧ (f x = 0 → Maps.has D (.string x) = false)
def Em (w : World) (b n : Nat) (f : List UInt8 → Nat) : Prop := ∃ D : DataW Value, w.ownsMap Tryd.prog 9 (plainElem Tryd.prog 3) b n D ∧ EmD D f
theorem Em.made (w : World) : Em (w.alloc (.map #[] 0)) w.heap.size 0 (fun _ => 0) := ⟨_, World.ownsMap_made _ _ _ _, fun _ => ⟨fun h => absurd rfl h, fun _ => rfl⟩⟩
theorem Em.congr {w : World} {b n : Nat} {f g : List UInt8 → Nat} (h : Em w b n f) (e : ∀ x, f x = g x) : Em w b n g := by
  obtain rfl : f = g := funext e
  exact h
theorem Em.kept {w w' : World} {b n : Nat} {f : List UInt8 → Nat} {row : Option Nat} (h : Em w b n f) (hg : w.grownBy w' row) (hne : some b ≠ row) : Em w' b n f := by
  obtain ⟨D, h1, h2⟩ := h
  exact ⟨D, h1.kept hg hne, h2⟩
theorem Em.lt {w : World} {b n : Nat} {f : List UInt8 → Nat} (h : Em w b n f) : b < w.heap.size := by
  obtain ⟨D, h1, _⟩ := h
  exact h1.lt
theorem key_of {y : List UInt8} (h : y.length ≤ 10000) : keyOf Tryd.prog 9 (.string ⟨y.toArray⟩) = some (.string y) := by
  rw [Go.WideMaps.keyOf_string_mk Tryd.underlying9 (by show y.toArray.size ≤ maxLen; simp; unfold maxLen; omega)]
theorem wpList_lookEm {ops : Array Oper} {rest : List Oper} {o : Oper} {a : Act} {w : World} {Q : Exit → Act → World → Prop} (hg : o.guard = none) (m x : Operand) (hop : o.op = Op.lookup 29 m x false) (b n : Nat) (f : List UInt8 → Nat) (h : Em w b n f)
    (y : List UInt8) (hl : y.length ≤ 10000) (V : Nat) (hV : f y = V) (hm : a.eval m = .map (some b)) (hx : a.eval x = .string ⟨y.toArray⟩)
    (h1 : wpList Tryd.prog ops Q rest (a.put o.dst (.int .i64 (V : Int))) w) : wpList Tryd.prog ops Q (o :: rest) a w := by
  obtain ⟨D, hD, hE⟩ := h
  refine wpList_lookup_own_int w hg m x 29 hop 9 3 .i64 keyed9 Tryd.underlying29 Tryd.underlying3 (Tryd.zeroValue3 _) b n D hm hD _ (.string y) hx (key_of hl) fun c hat _ => ?_
  obtain rfl : c = (f y : Int) := by
    by_cases e : f y = 0
    · rw [Maps.atKey_of_not_has ((hE y).2 e)] at hat
      injection hat with h2
      injection h2 with _ h3
      rw [← h3, e]
      rfl
    · rw [((hE y).1 e).2] at hat
      injection hat with h2
      injection h2 with _ h3
      exact h3.symm
  rw [hV]
  exact h1
theorem wpList_updEm {ops : Array Oper} {rest : List Oper} {o : Oper} {a : Act} {w : World} {Q : Exit → Act → World → Prop} (hg : o.guard = none) (m x v : Operand) (hop : o.op = Op.mapUpdate 29 m x v) (b n : Nat) (f : List UInt8 → Nat) (h : Em w b n f) (hn : n ≤ 100000)
    (y : List UInt8) (hl : y.length ≤ 10000) (V : Nat) (hV0 : V ≠ 0) (hV : V ≤ 1000) (hm : a.eval m = .map (some b)) (hx : a.eval x = .string ⟨y.toArray⟩) (hv : a.eval v = .int .i64 (V : Int))
    (hK : ∀ w', Em w' b (n + 1) (fun z => if z = y then V else f z) → w.grownBy w' (some b) → wpList Tryd.prog ops Q rest (a.put o.dst undef) w') : wpList Tryd.prog ops Q (o :: rest) a w := by
  obtain ⟨D, hD, hE⟩ := h
  refine wpList_mapUpdate_in w hg m x v 29 hop 9 3 keyed9 Tryd.underlying29 (plainElem Tryd.prog 3) b n D hm hD (by unfold maxLen; omega) _ (.int .i64 (V : Int)) (.string y) hx hv (key_of hl) (.lit (.int .i64 (V : Int))) [] (plainElem_int Tryd.underlying3 (by simp [Lit.wf, IntKind.min, IntKind.max, IntKind.signed, IntKind.bits]; omega)) fun w' h1 h2 => ?_
  refine hK w' ⟨D.put (.string y) (.lit (.int .i64 (V : Int))), h1, fun z => ?_⟩ h2.grown
  by_cases e : z = y
  · subst e
    simp only [if_true]
    exact ⟨fun _ => ⟨Maps.has_put_same hD.isMap (show WideAt.IsKeyLit (.string z) from trivial) _, fun u => Maps.atKey_put_same hD.isMap (show WideAt.IsKeyLit (.string z) from trivial) _ _⟩, fun h0 => absurd h0 hV0⟩
  · have hne : (Lit.string z) ≠ Lit.string y := fun h => e (by injection h)
    simp only [if_neg e]
    exact ⟨fun h0 => ⟨by rw [Maps.has_put_other hne]; exact ((hE z).1 h0).1, fun u => by rw [Maps.atKey_put_other hne]; exact ((hE z).1 h0).2 u⟩, fun h0 => by rw [Maps.has_put_other hne]; exact (hE z).2 h0⟩
/-- The library's table of blanks lies there. -/
def AS (w : World) : Prop := Lib.TabIs Tryd.prog w "strings.asciiSpace" .u8 Lib.asciiSpaceTab
theorem AS.on {w w' : World} {B : Nat} (h : AS w) (hB : 0 < B) (hb : Below B w w') : AS w' := by
  unfold AS Lib.TabIs World.var? at h ⊢
  rw [show Tryd.prog.globalNamed "strings.asciiSpace" = some 0 by kernel_rfl] at h ⊢
  simp only [Option.bind_some] at h ⊢
  rw [hb.block 0 hB]
  exact h
theorem or_any {a k : Nat} (hk : k < 7) (ha : a < 2 ^ k) : bits BinOp.or IntKind.i64 (a : Int) ((2 ^ k : Nat) : Int) = ((a + 2 ^ k : Nat) : Int) := by
  obtain rfl | rfl | rfl | rfl | rfl | rfl | rfl : k = 0 ∨ k = 1 ∨ k = 2 ∨ k = 3 ∨ k = 4 ∨ k = 5 ∨ k = 6 := by omega
  · exact or0 a ha
  · exact or1 a ha
  · exact or2 a ha
  · exact or3 a ha
  · exact or4 a ha
  · exact or5 a ha
  · exact or6 a ha
theorem fields_nm (k : Nat) (hk : k < 7) : Lib.fields (joinB (nmL k)) = nmL k ∧ (∀ b ∈ joinB (nmL k), b.toNat < 128) ∧ ∀ x ∈ nmL k, x.length ≤ 100 := by
  obtain rfl | rfl | rfl | rfl | rfl | rfl | rfl : k = 0 ∨ k = 1 ∨ k = 2 ∨ k = 3 ∨ k = 4 ∨ k = 5 ∨ k = 6 := by omega
  all_goals exact ⟨by decide +kernel, by decide +kernel, by decide +kernel⟩
theorem fields_any (k : Nat) (hk : k < 7) (w : World) (hA : AS w) : Calls Tryd.prog 13 #[.string (nameS k)] w fun e w' => e = .returned (.slice (some ⟨w.heap.size, 0, none⟩) (nmL k).length (nmL k).length) ∧ w' = w.alloc (.cells (strs (nmL k)) 9) := by
  have h := Tryd.strings_Fields (nameS k) w (nameS_small k hk) (fun j b hj => (fields_nm k hk).2.1 b (List.mem_of_getElem? hj)) hA
  rw [show (nameS k).data.toList = joinB (nmL k) from rfl, (fields_nm k hk).1] at h
  exact h
end Go.Proofs.YtncglgbogplpcaaDoor
