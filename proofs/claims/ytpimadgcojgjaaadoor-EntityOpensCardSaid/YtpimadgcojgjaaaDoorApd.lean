/-
  Own rows of bytes, numbers, strings: one more; what they are as slices.
-/
import Derived.Test.YtpimadgcojgjaaaDoorByt
namespace Go.Proofs.YtpimadgcojgjaaaDoor
open Go.RowKit Go.Shelf Go.Lib Go.Maps

def u8C (l : List Nat) : List Value := l.map fun (x : Nat) => Value.int .u8 (x : Int)
theorem u8C_len (l : List Nat) : (u8C l).length = l.length := by simp [u8C]
theorem u8C_snoc (l : List Nat) (x : Nat) : u8C (l ++ [x]) = u8C l ++ [.int .u8 (x : Int)] := by simp [u8C]
def OwnB (w : World) (base : Nat) (l : List Nat) (v : Value) : Prop := w.ownsRow base 5 1 v l.length (u8C l)
theorem OwnB.by {w : World} {base : Nat} {l : List Nat} {v : Value} (h : OwnB w base l v) (hl : ∀ x ∈ l, x < 256) : ∃ A cap, v = .slice A l.length cap ∧ BY w w.heap.size l A cap := by
  rcases h.2 with ⟨h1, h2⟩ | ⟨g, cap, cur, h1, h2, h3, h4, h5, h6, h7⟩
  · have hn : l = [] := List.eq_nil_of_length_eq_zero h2
    subst hn
    exact ⟨none, 0, by rw [h1]; rfl, ⟨Nat.le_refl _, by unfold maxLen; omega, fun _ => rfl, (fun x hx => absurd hx (by simp)), (fun hn => absurd rfl hn)⟩⟩
  · refine ⟨_, cap, h1, ⟨h4, h5, fun e => (by cases e), hl, fun _ => ⟨g, 0, rfl, (Array.getElem?_eq_some_iff.1 h3).1, fun i x hx => ?_⟩⟩⟩
    have hc := World.ownsRow.cells h (g := g) (by rw [h1]; rfl) i (.int .u8 (x : Int)) (by simp [u8C, hx])
    rw [add0] at hc
    rw [Nat.zero_add]; exact hc
theorem OwnB.below {w w' : World} {base : Nat} {l : List Nat} {v : Value} (h : OwnB w base l v) (hb : Below w.heap.size w w') : OwnB w' base l v := ownsRow_below h hb
theorem ownB_nil (w : World) (base : Nat) : OwnB w base [] (.slice none 0 0) := ⟨rfl, .inl ⟨rfl, rfl⟩⟩
theorem ownI_nil (w : World) (base : Nat) : OwnI w base [] (.slice none 0 0) := ⟨rfl, .inl ⟨rfl, rfl⟩⟩
theorem info5 : (Tryd.prog.info? 5).map (fun i => (i.zero, i.size, i.bytes)) = some (some (.int .u8 0), 1, 1) := by kernel_rfl
theorem info9 : (Tryd.prog.info? 9).map (fun i => (i.zero, i.size, i.bytes)) = some (some (.string ⟨#[]⟩), 1, 16) := by kernel_rfl
theorem info_parts {t : TypeId} {z : Value} {n b : Nat} (h : (Tryd.prog.info? t).map (fun i => (i.zero, i.size, i.bytes)) = some (some z, n, b)) : ∃ i, Tryd.prog.info? t = some i ∧ i.zero = some z ∧ i.size = n ∧ i.bytes = b := by
  cases e : Tryd.prog.info? t with
  | none => rw [e] at h; simp at h
  | some i =>
    rw [e] at h
    simp at h
    exact ⟨i, rfl, h.1, h.2.1, h.2.2⟩
/-- One byte more. -/
theorem wpList_appB {ops : Array Oper} {rest : List Oper} {o : Oper} {a : Act} {w : World} {Q : Exit → Act → World → Prop} (hgd : o.guard = none) (s x : Operand)
    (ho : o.op = .call { callee := .builtin .append, args := #[s, x], argTypes := #[22, 22] }) (base : Nat) (v : Value) (l : List Nat) (n : Nat) (hn : l.length = n) (hs : a.eval s = v) (hown : OwnB w base l v) (ad : Addr) (Y : Int) (y : Nat) (hy : Y = (y : Int))
    (hx : a.eval x = .slice (some ad) 1 1) (hu : w.cell? ad = some (.int .u8 Y)) (h63 : n ≤ 1000000) (hbase : base ≤ w.heap.size)
    (h : ∀ g cap w', OwnB w' base (l ++ [y]) (.slice (some ⟨g, 0, none⟩) (n + 1) cap) → Below base w w' → wpList Tryd.prog ops Q rest (a.put o.dst (.slice (some ⟨g, 0, none⟩) (n + 1) cap)) w') : wpList Tryd.prog ops Q (o :: rest) a w := by
  obtain ⟨i, hi, hz, hs1, hb1⟩ := info_parts info5
  subst hn hy
  refine wpList_append_one hgd s x 22 ho base 5 i (.int .u8 0) 1 Tryd.underlying22 hi hz hs1 hb1 (by decide) rfl v l.length (u8C l) hs hown ad _ hx hu rfl h63 hbase _ rfl ?_
  intro g cap w' h1 h2 _ _
  refine h g cap w' ?_ (below_grown' h2 hown hbase)
  unfold OwnB
  rw [u8C_snoc, List.length_append]
  exact h1
/-- One number more. -/
theorem wpList_appI {ops : Array Oper} {rest : List Oper} {o : Oper} {a : Act} {w : World} {Q : Exit → Act → World → Prop} (hgd : o.guard = none) (s x : Operand)
    (ho : o.op = .call { callee := .builtin .append, args := #[s, x], argTypes := #[46, 46] }) (base : Nat) (v : Value) (l : List Int) (n : Nat) (hn : l.length = n) (hs : a.eval s = v) (hown : OwnI w base l v) (ad : Addr) (y : Int)
    (hx : a.eval x = .slice (some ad) 1 1) (hu : w.cell? ad = some (.int .i64 y)) (h63 : n ≤ 1000000) (hbase : base ≤ w.heap.size)
    (h : ∀ g cap w', OwnI w' base (l ++ [y]) (.slice (some ⟨g, 0, none⟩) (n + 1) cap) → Below base w w' → wpList Tryd.prog ops Q rest (a.put o.dst (.slice (some ⟨g, 0, none⟩) (n + 1) cap)) w') : wpList Tryd.prog ops Q (o :: rest) a w := by
  obtain ⟨i, hi, hz, hs1, hb1⟩ := info_parts info3
  subst hn
  refine wpList_append_one hgd s x 46 ho base 3 i (.int .i64 0) 8 Tryd.underlying46 hi hz hs1 hb1 (by decide) rfl v l.length (intsC l) hs hown ad _ hx hu rfl h63 hbase _ rfl ?_
  intro g cap w' h1 h2 _ _
  refine h g cap w' ?_ (below_grown' h2 hown hbase)
  unfold OwnI
  rw [intsC_append, List.length_append]
  exact h1
def strC (l : List ByteArray) : List Value := l.map Value.string
def OwnS (w : World) (base : Nat) (l : List ByteArray) (v : Value) : Prop := w.ownsRow base 9 1 v l.length (strC l)
theorem ownS_nil (w : World) (base : Nat) : OwnS w base [] (.slice none 0 0) := ⟨rfl, .inl ⟨rfl, rfl⟩⟩
theorem OwnS.below {w w' : World} {base : Nat} {l : List ByteArray} {v : Value} (h : OwnS w base l v) (hb : Below w.heap.size w w') : OwnS w' base l v := ownsRow_below h hb
/-- One string more. -/
theorem wpList_appS {ops : Array Oper} {rest : List Oper} {o : Oper} {a : Act} {w : World} {Q : Exit → Act → World → Prop} (hgd : o.guard = none) (s x : Operand)
    (ho : o.op = .call { callee := .builtin .append, args := #[s, x], argTypes := #[32, 32] }) (base : Nat) (v : Value) (l : List ByteArray) (n : Nat) (hn : l.length = n) (hs : a.eval s = v) (hown : OwnS w base l v) (ad : Addr) (y : ByteArray)
    (hx : a.eval x = .slice (some ad) 1 1) (hu : w.cell? ad = some (.string y)) (h63 : n ≤ 1000000) (hbase : base ≤ w.heap.size)
    (h : ∀ g cap w', OwnS w' base (l ++ [y]) (.slice (some ⟨g, 0, none⟩) (n + 1) cap) → Below base w w' → wpList Tryd.prog ops Q rest (a.put o.dst (.slice (some ⟨g, 0, none⟩) (n + 1) cap)) w') : wpList Tryd.prog ops Q (o :: rest) a w := by
  obtain ⟨i, hi, hz, hs1, hb1⟩ := info_parts info9
  subst hn
  refine wpList_append_one hgd s x 32 ho base 9 i (.string ⟨#[]⟩) 16 Tryd.underlying32 hi hz hs1 hb1 (by decide) rfl v l.length (strC l) hs hown ad _ hx hu rfl h63 hbase _ rfl ?_
  intro g cap w' h1 h2 _ _
  refine h g cap w' ?_ (below_grown' h2 hown hbase)
  unfold OwnS
  rw [List.length_append, show strC (l ++ [y]) = strC l ++ [.string y] by simp [strC]]
  exact h1
end Go.Proofs.YtpimadgcojgjaaaDoor
