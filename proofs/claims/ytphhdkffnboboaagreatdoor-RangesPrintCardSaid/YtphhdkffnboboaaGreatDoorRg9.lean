/-
  Contracts: append of a row of ranges that may be nil; slices.Clone; ranges.join at whatever row; ranges.Make.
-/
import Derived.Shelf.SlicesE.Clone
import Derived.Laws.AppendOwnNone
import Derived.Test.YtphhdkffnboboaaGreatDoorRg8
namespace Go.Proofs.YtphhdkffnboboaaGreatDoor
open Go.RowKit Go.Shelf
open Go.Lib

/-- What a slice's address looks like. -/
def Fm (A : Option Addr) (cap : Nat) : Prop := (A = none ∧ cap = 0) ∨ ∃ b o, A = some ⟨b, o, none⟩
/-- A slice without an array has no room. -/
def Fw (A : Option Addr) (cap : Nat) : Prop := A = none → cap = 0
theorem Fm.w {A : Option Addr} {cap : Nat} (h : Fm A cap) : Fw A cap := fun e => by
  rcases h with ⟨_, h⟩ | ⟨b, o, h⟩
  · exact h
  · rw [h] at e; cases e
theorem ownsRow_Fm {w : World} {B T : Nat} {A : Option Addr} {n cap : Nat} {xs : List Value} {n' : Nat} {sz : Nat} (h : w.ownsRow B T sz (.slice A n cap) n' xs) : Fm A cap := by
  rcases h.2 with ⟨h1, _⟩ | ⟨g, c, _, h1, _⟩
  · injection h1 with h1 h2 h3
    exact .inl ⟨h1, h3⟩
  · injection h1 with h1 h2 h3
    exact .inr ⟨g, 0, h1⟩

theorem append_types {P : Program} (t u ty : TypeId) {e e' : TypeId} (s x : Value) (ht : P.underlying t = some (.slice e)) (hu : P.underlying u = some (.slice e')) (w : World) :
    (Builtin.append_ #[t, u] ty #[s, x]).run P w = (Builtin.append_ #[t, t] ty #[s, x]).run P w := by
  have r1 := fun w => run_underlying (P := P) (w := w) ht
  have r2 := fun w => run_underlying (P := P) (w := w) hu
  cases s <;> simp [Builtin.append_, Sem.run_bind, r1, r2, Result.andThen]

theorem RgAt.cells {w : World} {b o : Nat} {xs : List Rng} (h : RgAt w b o xs) : ∀ j u, (cells2 xs)[j]? = some u → w.cell? ⟨b, o + j, none⟩ = some u := by
  intro j u hu
  have hj : j < xs.length * 2 := by rw [← cells2_length]; exact (List.getElem?_eq_some_iff.1 hu).1
  obtain ⟨x, hx⟩ : ∃ x, xs[j / 2]? = some x := ⟨xs[j / 2]'(by omega), List.getElem?_eq_getElem _⟩
  obtain ⟨h1, h2⟩ := h _ x hx
  obtain ⟨c1, c2⟩ := cells2_get xs _ x hx
  rcases Nat.mod_two_eq_zero_or_one j with c | c
  · have e : j / 2 * 2 = j := by omega
    rw [e] at h1 c1
    rw [c1] at hu
    rw [h1, ← hu]
  · have e : j / 2 * 2 + 1 = j := by omega
    rw [Nat.add_assoc, e] at h2
    rw [e] at c2
    rw [c2] at hu
    rw [h2, ← hu]

theorem wpList_append_rg {P : Program} {w : World} {ops : Array Oper} {rest : List Oper} {o : Oper} {a : Act} {Q : Exit → Act → World → Prop} (hgd : o.guard = none) (s x : Operand) (t u : TypeId)
    (ho : o.op = .call { callee := .builtin .append, args := #[s, x], argTypes := #[t, u] })
    (base : Nat) (e : TypeId) (i : TypeInfo) (z : Value) (ht : P.underlying t = some (.slice e)) (hu : P.underlying u = some (.slice e)) (hi : P.info? e = some i) (hz : i.zero = some z)
    (hsize : i.size = 2) (hby : i.bytes = 8) (hzs : z.cells.size = 2)
    (v : Value) (xs : List Rng) (hs : a.eval s = v) (hown : w.ownsRow base e 2 v xs.length (cells2 xs))
    (A : Option Addr) (c : Nat) (ys : List Rng) (hx : a.eval x = .slice A ys.length c) (hR : RS w w.heap.size A c ys) (hF : Fw A c)
    (h63 : xs.length + ys.length ≤ 10000000) (hbase : base ≤ w.heap.size)
    (h : ∀ v' w', w'.ownsRow base e 2 v' (xs ++ ys).length (cells2 (xs ++ ys)) → Below base w w' → wpList P ops Q rest (a.put o.dst v') w') : wpList P ops Q (o :: rest) a w := by
  refine wpList_plain hgd fun K hK => ?_
  have key : ∃ v' w', (Builtin.append_ #[t, t] o.type #[v, .slice A ys.length c]).run P w = .ok v' w' ∧ w'.ownsRow base e 2 v' (xs ++ ys).length (cells2 (xs ++ ys)) ∧ Below base w w' := by
    rcases A with _ | ad
    · obtain rfl := hF rfl
      have h0 : ys = [] := List.length_eq_zero_iff.1 (by have := hR.1; omega)
      subst h0
      refine ⟨v, w, run_append_owned_none (P := P) (w := w) base t o.type e i 2 ht hi v _ _ hown, by simpa using hown, Below.refl _ _⟩
    · have hc : ∀ j u, (cells2 ys)[j]? = some u → w.cell? (ad.add j) = some u := fun j u hj => by
        have hn : ys ≠ [] := by rintro rfl; simp [cells2] at hj
        obtain ⟨b', o', e', _, hg⟩ := hR.2.2.2 hn
        injection e' with e'
        rw [e', Addr.add_lit]
        exact hg.cells j u hj
      obtain ⟨v', w', h1, h2, h3, h4, _⟩ := run_append_own_at (P := P) w base t o.type e i z 2 8 ht hi hz hsize hby hzs (by omega) v xs.length (cells2 xs) hown ad ys.length c (cells2 ys) (cells2_length ys) hc (cells2_one ys) (by unfold maxLen; omega) (by omega) hbase
      refine ⟨v', w', h1, ?_, (Below.refl _ w).grown h3 hbase (fun k e' => (own_block_lt hown k e').1)⟩
      rw [List.length_append, cells2_append]
      exact h2
  obtain ⟨v', w', hrun, h2, h3⟩ := key
  rw [← append_types t u o.type v _ ht hu w] at hrun
  unfold Oper.wp
  simp [execOp, ho, resolve, invoke, builtin, hs, hx, hrun, Result.andThen]
  exact hK _ _ (h v' w' h2 h3)

set_option maxRecDepth 100000 in
theorem clone_any (A : Option Addr) (cap : Nat) (xs : List Rng) (w : World) (h : RS w w.heap.size A cap xs) (hF : Fm A cap) (hl : xs.length ≤ 1000000) :
    Calls Tryz.prog 24 #[.slice A xs.length cap] w (HoldsR w.heap.size 39 xs w) := by
  obtain ⟨i0, hi, hz0, hz1, hz2⟩ := info_parts Tryz.info39
  rcases hF with ⟨rfl, rfl⟩ | ⟨b, o, rfl⟩
  · have h0 : xs = [] := List.length_eq_zero_iff.1 (by have := h.1; omega)
    subst h0
    have c : Calls Tryz.prog 24 #[.slice none 0 0] w _ := AnyE.slices_Clone_nil Tryz.cloneL 0 0 w
    refine Calls.mono c ?_
    rintro e w' ⟨he, hw⟩
    rw [he, hw]
    exact ⟨_, rfl, World.ownsRow_nil _ _ _ _, Below.refl _ _⟩
  · have hc : ∀ j u, (cells2 xs)[j]? = some u → w.cell? ⟨b, o + j, none⟩ = some u := fun j u hj => by
      have hn : xs ≠ [] := by rintro rfl; simp [cells2] at hj
      obtain ⟨b', o', e', _, hg⟩ := h.2.2.2 hn
      injection e' with e'
      injection e' with e1 e2 e3
      rw [e1, e2]
      exact hg.cells j u hj
    have c : Calls Tryz.prog 24 #[.slice (some ⟨b, o, none⟩) xs.length cap] w _ := AnyE.slices_Clone Tryz.cloneL i0 (.agg #[.int .i32 0, .int .i32 0]) 2 8 hi hz0 hz1 hz2 rfl (by omega) Tryz.sizeOf39 b o xs.length cap (cells2 xs) w (cells2_length xs) (by unfold maxLen; omega) (by omega) hc (cells2_one xs)
    refine Calls.mono c ?_
    rintro e w' ⟨v, rfl, hown, _, hb⟩
    exact ⟨v, rfl, hown, hb⟩

/-- What join hands back: the right list of the numbers. -/
def SetOf (B : Nat) (f : Int → Bool) (w : World) (e : Ending) (w' : World) : Prop := ∃ out : List Rng, right out = true ∧ (∀ r, hasR out r = f r) ∧ HoldsR B 39 out w e w'

theorem join_any (B : Nat) (v : Value) (xs : List Rng) (w : World) (hown : w.ownsRow B 39 2 v xs.length (cells2 xs)) (hB : B ≤ w.heap.size) (hl : xs.length ≤ 1000000) (hmay : ∀ x ∈ xs, may x = true) :
    Calls Tryz.prog 23 #[v] w fun e w' => ∃ out : List Rng, right out = true ∧ (∀ r, hasR out r = hasR xs r) ∧ out.length ≤ xs.length ∧ HoldsR B 39 out w e w' := by
  rcases hown.2 with ⟨rfl, h0⟩ | ⟨g, cap, _, rfl, _⟩
  · have hx : xs = [] := List.length_eq_zero_iff.1 h0
    subst hx
    have C : ∀ fv W, Calls Tryz.prog 36 #[.slice none 0 0, fv] W fun e w' => e = .returned (.tuple #[]) ∧ w' = W := fun fv W => AnyF.slices_SortFunc_none Tryz.sortL none 0 fv W
    have C := Lib.hid C
    clear hown hmay h0
    go_enter Tryz.func23, Tryz.ntmps23
    go_wp2_with fail
    refine (C.out _ _).mono ?_
    rintro e w1 ⟨rfl, rfl⟩
    go_wp2
    go_loopw [3, 11] (fun v i wr => v = .slice none 0 0 ∧ i = .int .i64 0 ∧ wr = w1) (fun _ _ _ => 0)
    case atStart => exact ⟨rfl, rfl, rfl⟩
    case round =>
      obtain ⟨rfl, rfl, rfl⟩ := hrel
      go_wp2
      go_ret
      exact ⟨[], rfl, fun _ => rfl, Nat.le_refl _, _, rfl, World.ownsRow_nil _ _ _ _, Below.refl _ _⟩
  · exact join_loop B g cap xs [] w w hown hB hl hmay

/-- What Make hands back. -/
def MakePost (xs : List Rng) (w : World) (e : Ending) (w' : World) : Prop :=
  Below w.heap.size w w' ∧ (if 1000 < xs.length then e = .returned (.tuple #[.slice none 0 0, .int .i64 3])
    else if xs.all may then ∃ v out, e = .returned (.tuple #[v, .int .i64 0]) ∧ right out = true ∧ (∀ r, hasR out r = hasR xs r) ∧ out.length ≤ xs.length ∧ w'.ownsRow w.heap.size 39 2 v out.length (cells2 out)
    else e = .returned (.tuple #[.slice none 0 0, .int .i64 1]))

theorem all_step (xs : List Rng) (k : Nat) (x : Rng) (h : xs[k]? = some x) : (xs.take (k + 1)).all may = ((xs.take k).all may && may x) := by
  rw [List.take_add_one, h]
  simp
theorem all_false (xs : List Rng) (k : Nat) (x : Rng) (h : xs[k]? = some x) (hx : may x = false) : xs.all may = false := by
  rw [List.all_eq_false]
  exact ⟨x, List.mem_of_getElem? h, by simp [hx]⟩

set_option maxHeartbeats 4000000 in
set_option maxRecDepth 100000 in
theorem make_any (A : Option Addr) (cap : Nat) (xs : List Rng) (w : World) (h : RS w w.heap.size A cap xs) (hF : Fm A cap) (hl : xs.length ≤ 1000000) :
    Calls Tryz.prog 12 #[.slice A xs.length cap] w (MakePost xs w) := by
  have H := Lib.hid h
  have HF := Lib.hid hF
  have C1 := Lib.hid inB_any
  have HC := Lib.hid (fun W (hb : Below w.heap.size w W) => clone_any A cap xs W ((h.below hb).mono hb.size) hF hl)
  obtain ⟨n, hn⟩ : ∃ n, xs.length = n := ⟨_, rfl⟩
  have HN := Lib.hid hn
  rw [hn] at hl HC ⊢
  clear h hn hF
  by_cases c : 1000 < n
  · have d : (1000 : Int) < (n : Int) := by omega
    go_enter Tryz.func12, Tryz.ntmps12
    go_wp2
    go_ret2
    exact ⟨Below.refl _ _, by rw [HN.out, if_pos c]; rfl⟩
  · have d : decide ((1000 : Int) < (n : Int)) = false := by simp; omega
    go_enter Tryz.func12, Tryz.ntmps12
    go_wp2
    go_loopw [11] (fun i wr => ∃ k : Nat, i = .int .i64 k ∧ k ≤ n ∧ (xs.take k).all may = true ∧ Below w.heap.size w wr) (fun i _ => n - (RowKit.intOf i).toNat)
    case atStart => exact ⟨0, rfl, Nat.zero_le _, rfl, Below.refl _ _⟩
    case round =>
      obtain ⟨k, rfl, hk, hr, hb⟩ := hrel
      have HR := Lib.hid hr
      clear hr
      by_cases hlt : k < n
      · obtain ⟨x, hx⟩ : ∃ x, xs[k]? = some x := ⟨xs[k]'(by have := HN.out; omega), List.getElem?_eq_getElem _⟩
        obtain ⟨b, o, rfl, hbl, hRg⟩ := H.out.2.2.2 (by intro e; rw [e] at hx; simp at hx)
        obtain ⟨q1, q2⟩ := (hRg.below hbl hb) k x hx
        have hix := H.out.i32 hx
        have HS := Lib.hid (all_step xs k x hx)
        have HA := Lib.hid (all_false xs k x hx)
        clear hRg hx
        obtain ⟨lo, hi'⟩ := x
        have i1 : (k : Int) < (n : Int) := by omega
        obtain ⟨M, hM⟩ : ∃ M, may (lo, hi') = M := ⟨_, rfl⟩
        have C2 := Lib.hid (C1.out lo hi' hix)
        rw [hM] at C2
        have hb1 : Below w.heap.size w (wr.alloc (.cells #[.int .i32 lo, .int .i32 hi'] 39)) := hb.alloc hb.size _
        go_wp2_with fail
        refine (C2.out _).mono ?_
        rintro e w1 ⟨rfl, hb2⟩
        have hbz := hb1.trans (hb2.mono hb1.size)
        clear hb1 hb2
        cases M
        · have HA2 := Lib.hid (HA.out hM)
          go_wp2
          go_ret2
          exact ⟨hbz, by rw [HN.out, if_neg c, HA2.out]; rfl⟩
        · go_wp2
          go_roundw
          case rel => exact ⟨k + 1, by go_num, by omega, by rw [HS.out, HR.out, hM]; rfl, hbz⟩
          case measure => simp [RowKit.intOf]; omega
      · have hkn : k = n := by omega
        have HA := Lib.hid (show xs.all may = true by have h := HR.out; rwa [hkn, ← HN.out, List.take_length] at h)
        subst hkn
        go_wp2_with fail
        refine (HC.out _ hb).mono ?_
        rintro e w2 ⟨v, rfl, hown, hb2⟩
        have hJ := join_any wr.heap.size v xs w2 hown hb2.size (by have := HN.out; omega) (fun x hx => List.all_eq_true.1 HA.out x hx)
        have HJ := Lib.hid hJ
        have hbz := hb.trans (hb2.mono hb.size)
        clear hown hJ hb2
        go_wp2_with fail
        refine HJ.out.mono ?_
        rintro e w3 ⟨out, hro, hho, hlo, v', rfl, hown', hb3⟩
        have HO := Lib.hid (And.intro hro (And.intro hho (And.intro hlo (own_mono hown' hb.size))))
        have hbq := hbz.trans (hb3.mono hb.size)
        clear hro hho hlo hown' hb3 hbz
        go_wp2
        go_ret2
        exact ⟨hbq, by rw [HN.out, if_neg c, if_pos HA.out]; exact ⟨v', out, rfl, HO.out.1, HO.out.2.1, by rw [← HN.out]; exact HO.out.2.2.1, HO.out.2.2.2⟩⟩
end Go.Proofs.YtphhdkffnboboaaGreatDoor
