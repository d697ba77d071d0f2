/-
  ScalarJoins: behind bytes that are valid any others are read as if they stood alone. The plain part, the contract of the law's 'same', the walk of the law.
-/
import Derived.Laws.AppendOwnNone
import Derived.Test.YtimiinnnmdcmhaaDoorPlaces
namespace Go.Proofs.YtimiinnnmdcmhaaDoor
open Go.RowKit Go.Shelf
open Go.Lib

/-! ### the plain part -/
/-- What is whole hangs on its own bytes alone. -/
theorem pc_ext {n n' : Nat} {f f' : Nat → Nat} (hn : 1 ≤ n) (hnn : n ≤ n') (hf : ∀ j, j < n → f' j = f j) (h : (pc n f).2.2 = true) : pc n' f' = pc n f := by
  have e0 := hf 0 (by omega)
  by_cases a1 : f 0 < 128
  · rw [pcA hn a1, pcA (n := n') (f := f') (by omega) (by rw [e0]; exact a1), e0]
  · by_cases a2 : f 0 < 194 ∨ 245 ≤ f 0
    · rw [pcX hn (by omega)] at h; simp at h
    · by_cases a3 : f 0 < 224
      · rw [pc2 hn (by omega)] at h ⊢
        by_cases c : 1 < n ∧ 128 ≤ f 1 ∧ f 1 ≤ 191
        · have e1 := hf 1 c.1
          rw [if_pos c, pc2 (n := n') (f := f') (by omega) (by rw [e0]; omega), e0, e1, if_pos ⟨by omega, c.2⟩]
        · rw [if_neg c] at h; simp at h
      · by_cases a4 : f 0 < 240
        · rw [pc3 hn (by omega)] at h ⊢
          by_cases c : 1 < n ∧ (if f 0 = 224 then 160 else 128) ≤ f 1 ∧ f 1 ≤ (if f 0 = 237 then 159 else 191)
          · rw [if_pos c] at h ⊢
            by_cases d : 2 < n ∧ 128 ≤ f 2 ∧ f 2 ≤ 191
            · have e1 := hf 1 c.1
              have e2 := hf 2 d.1
              rw [if_pos d, pc3 (n := n') (f := f') (by omega) (by rw [e0]; omega), e0, e1, e2, if_pos ⟨by omega, c.2⟩, if_pos ⟨by omega, d.2⟩]
            · rw [if_neg d] at h; simp at h
          · rw [if_neg c] at h; simp at h
        · rw [pc4 hn (by omega)] at h ⊢
          by_cases c : 1 < n ∧ (if f 0 = 240 then 144 else 128) ≤ f 1 ∧ f 1 ≤ (if f 0 = 244 then 143 else 191)
          · rw [if_pos c] at h ⊢
            by_cases d : 2 < n ∧ 128 ≤ f 2 ∧ f 2 ≤ 191
            · rw [if_pos d] at h ⊢
              by_cases g : 3 < n ∧ 128 ≤ f 3 ∧ f 3 ≤ 191
              · have e1 := hf 1 c.1
                have e2 := hf 2 d.1
                have e3 := hf 3 g.1
                rw [if_pos g, pc4 (n := n') (f := f') (by omega) (by rw [e0]; omega), e0, e1, e2, e3, if_pos ⟨by omega, c.2⟩, if_pos ⟨by omega, d.2⟩, if_pos ⟨by omega, g.2⟩]
              · rw [if_neg g] at h; simp at h
            · rw [if_neg d] at h; simp at h
          · rw [if_neg c] at h; simp at h

/-- Two lists of bytes, one behind the other. -/
def fab (na : Nat) (fa fb : Nat → Nat) (j : Nat) : Nat := if j < na then fa j else fb (j - na)

theorem rd_ab {na nb : Nat} {fa fb : Nat → Nat} {i : Nat} (hi : i < na) (h : (rd na fa i).2.2.2 = true) : rd (na + nb) (fab na fa fb) i = rd na fa i := by
  have e := pc_ext (n := na - i) (n' := na + nb - i) (f := fun j => fa (i + j)) (f' := fun j => fab na fa fb (i + j)) (by omega) (by omega)
    (fun j hj => by show fab na fa fb (i + j) = fa (i + j); unfold fab; rw [if_pos (by omega)]) h
  show ((pc (na + nb - i) (fun j => fab na fa fb (i + j))).1, i, (pc (na + nb - i) (fun j => fab na fa fb (i + j))).2.1, (pc (na + nb - i) (fun j => fab na fa fb (i + j))).2.2) = _
  rw [e]
  rfl
theorem rest_ab {na nb : Nat} {fa fb : Nat → Nat} (m : Nat) : ∀ i, na - i ≤ m → i ≤ na → (∀ x ∈ rest na fa i, x.2.2.2 = true) →
    rest (na + nb) (fab na fa fb) i = rest na fa i ++ rest (na + nb) (fab na fa fb) na := by
  induction m with
  | zero =>
    intro i hm hi _
    have : i = na := by omega
    rw [this, rest_end na fa (Nat.le_refl _), List.nil_append]
  | succ m ih =>
    intro i hm hi hw
    by_cases c : i < na
    · have hs := rd_size na fa c
      rw [rest_cons na fa c] at hw ⊢
      have e := rd_ab (na := na) (nb := nb) (fa := fa) (fb := fb) c (hw _ (List.mem_cons_self ..))
      rw [rest_cons (na + nb) (fab na fa fb) (i := i) (by omega), e, ih (i + (rd na fa i).2.2.1) (by omega) hs.2 (fun x hx => hw x (by simp [hx])), List.cons_append]
    · have : i = na := by omega
      rw [this, rest_end na fa (Nat.le_refl _), List.nil_append]
theorem rest_shift {na nb : Nat} {fa fb : Nat → Nat} (m : Nat) : ∀ i, nb - i ≤ m → runes (rest (na + nb) (fab na fa fb) (na + i)) = runes (rest nb fb i) := by
  induction m with
  | zero =>
    intro i hm
    rw [rest_end nb fb (by omega), rest_end (na + nb) _ (by omega)]
  | succ m ih =>
    intro i hm
    by_cases c : i < nb
    · have hs := rd_size nb fb c
      have e : rd (na + nb) (fab na fa fb) (na + i) = ((rd nb fb i).1, na + i, (rd nb fb i).2.2.1, (rd nb fb i).2.2.2) := by
        have h1 : na + nb - (na + i) = nb - i := by omega
        have h2 : (fun j => fab na fa fb (na + i + j)) = fun j => fb (i + j) := by
          funext j
          unfold fab
          rw [if_neg (by omega)]
          congr 1
          omega
        unfold rd
        rw [h1, h2]
      rw [rest_cons nb fb c, rest_cons (na + nb) _ (i := na + i) (by omega), e]
      have := ih (i + (rd nb fb i).2.2.1) (by omega)
      rw [← Nat.add_assoc] at this
      show _ :: runes _ = _ :: runes _
      rw [this]
    · rw [rest_end nb fb (by omega), rest_end (na + nb) _ (by omega)]
/-- THE LAW, PLAIN. -/
theorem runes_ab {na nb : Nat} {fa fb : Nat → Nat} (h : ∀ x ∈ rest na fa 0, x.2.2.2 = true) : runes (rest (na + nb) (fab na fa fb) 0) = runes (rest na fa 0) ++ runes (rest nb fb 0) := by
  rw [rest_ab na 0 (by omega) (by omega) h]
  have e := rest_shift (na := na) (nb := nb) (fa := fa) (fb := fb) nb 0 (by omega)
  rw [← e]
  simp [runes]

/-! ### appending what may be nil -/
/-- What is appended: nothing, of nil; or cells that are there. -/
def Src (w : World) (A : Option Addr) (m c : Nat) (news : List Value) : Prop :=
  (A = none ∧ m = 0 ∧ c = 0 ∧ news = []) ∨ ∃ ad, A = some ad ∧ (0 < m → ad.block < w.heap.size) ∧ news.length = m ∧ ∀ (j : Nat) (u : Value), news[j]? = some u → w.cell? (ad.add j) = some u
theorem block_add (ad : Addr) (j : Nat) : (ad.add j).block = ad.block := by
  unfold Addr.add
  split <;> rfl
theorem Src.below {w w' : World} {A : Option Addr} {m c : Nat} {news : List Value} (h : Src w A m c news) (hb : Below w.heap.size w w') : Src w' A m c news := by
  rcases h with h | ⟨ad, e, hl, h1, h2⟩
  · exact .inl h
  · exact .inr ⟨ad, e, fun hm => Nat.lt_of_lt_of_le (hl hm) hb.size, h1, fun j u hu => (hb.cell (p := ad.add j) (by rw [block_add]; exact hl (by have := (List.getElem?_eq_some_iff.1 hu).1; omega))).trans (h2 j u hu)⟩

theorem wpList_append_src {P : Program} {w : World} {ops : Array Oper} {rest : List Oper} {o : Oper} {a : Act} {Q : Exit → Act → World → Prop} (hgd : o.guard = none) (s x : Operand) (t : TypeId)
    (ho : o.op = .call { callee := .builtin .append, args := #[s, x], argTypes := #[t, t] })
    (base : Nat) (e : TypeId) (i : TypeInfo) (z : Value) (bytes : Nat) (ht : P.underlying t = some (.slice e)) (hi : P.info? e = some i) (hz : i.zero = some z)
    (hsize : i.size = 1) (hby : i.bytes = bytes) (hzs : z.cells.size = 1)
    (v : Value) (n : Nat) (xs : List Value) (hs : a.eval s = v) (hown : w.ownsRow base e 1 v n xs)
    (A : Option Addr) (m c : Nat) (news : List Value) (hx : a.eval x = .slice A m c) (hsrc : Src w A m c news) (h1 : ∀ u ∈ news, u.oneCell' = true)
    (h63 : n + m ≤ maxLen) (hbytes : (n + m) * bytes ≤ 140737488355328) (hbase : base ≤ w.heap.size)
    (h : ∀ v' w', w'.ownsRow base e 1 v' (n + m) (xs ++ news) → Below base w w' → wpList P ops Q rest (a.put o.dst v') w') : wpList P ops Q (o :: rest) a w := by
  rcases hsrc with ⟨rfl, rfl, rfl, rfl⟩ | ⟨ad, rfl, _, hl, hcells⟩
  · exact wpList_append_own_none hgd s x t ho base e i 1 ht hi v n xs hs hown hx (h v w (by simpa using hown) (Below.refl _ _))
  · exact wpList_append_own _ hgd s x t ho base e i z 1 bytes ht hi hz hsize hby hzs (by omega) v n xs hs hown ad m c news hx (by omega) hcells h1 h63 hbytes hbase
      (fun v' w' h2 h3 _ => h v' w' h2 ((Below.refl _ w).grown h3 hbase (fun k e' => (own_block_lt hown k e').1)))

def bytesV (n : Nat) (f : Nat → Nat) : List Value := (List.range n).map fun j => Value.int .u8 (f j : Nat)
theorem bytesV_ab (na nb : Nat) (fa fb : Nat → Nat) : bytesV na fa ++ bytesV nb fb = bytesV (na + nb) (fab na fa fb) := by
  apply List.ext_getElem
  · simp [bytesV]
  · intro i h1 h2
    simp [bytesV] at h2
    by_cases c : i < na
    · rw [List.getElem_append_left (by simp [bytesV]; exact c)]
      simp [bytesV, fab, c]
    · rw [List.getElem_append_right (by simp [bytesV]; omega)]
      simp [bytesV, fab, c]
theorem src_of_sl {w : World} {A : Option Addr} {n cap : Nat} {f : Nat → Nat} (h : Sl w w.heap.size A n cap f) (hnil : A = none → cap = 0) : Src w A n cap (bytesV n f) := by
  cases A with
  | none =>
    have hc := hnil rfl
    have h1 := h.1
    have hn : n = 0 := by omega
    subst hn
    exact .inl ⟨rfl, rfl, hc, rfl⟩
  | some ad =>
    refine .inr ⟨ad, rfl, fun hn => ?_, by simp [bytesV], fun j u hu => ?_⟩
    · obtain ⟨b, off, e, hl, _⟩ := h.2.2 hn
      injection e with e
      rw [e]
      exact hl
    · have hj : j < n := by simpa [bytesV] using (List.getElem?_eq_some_iff.1 hu).1
      obtain ⟨b, off, e, _, hBs⟩ := h.2.2 (by omega)
      injection e with e
      have ea : (Addr.mk b off none).add j = ⟨b, off + j, none⟩ := by
        unfold Addr.add
        by_cases h : j = 0 <;> simp [h]
      rw [e, ea, (hBs j hj).1, ← hu]
      simp [bytesV, hj]
theorem src_of_own {w : World} {base e n : Nat} {v : Value} {xs : List Value} (h : w.ownsRow base e 1 v n xs) : ∃ A cap, v = .slice A n cap ∧ Src w A n cap xs := by
  have hl := h.1
  rcases h.2 with ⟨rfl, rfl⟩ | ⟨g, cap, cur, rfl, hb, hh, hnc, hcm, hcs, htk⟩
  · exact ⟨none, 0, rfl, .inl ⟨rfl, rfl, rfl, List.eq_nil_of_length_eq_zero (by omega)⟩⟩
  · refine ⟨_, cap, rfl, .inr ⟨_, rfl, fun _ => (Array.getElem?_eq_some_iff.1 hh).1, by omega, fun j u hu => ?_⟩⟩
    have hj := (List.getElem?_eq_some_iff.1 hu).1
    rw [add0, h.cellAt j (by omega), hu]
theorem sl_of_own {w : World} {base n : Nat} {v : Value} {f : Nat → Nat} (h : w.ownsRow base 5 1 v n (bytesV n f)) (hf : ∀ j, j < n → f j < 256) : ∃ A cap, v = .slice A n cap ∧ Sl w w.heap.size A n cap f := by
  rcases h.2 with ⟨rfl, rfl⟩ | ⟨g, cap, cur, rfl, hb, hh, hnc, hcm, hcs, htk⟩
  · exact ⟨none, 0, rfl, Nat.le_refl _, Nat.zero_le _, fun h => absurd h (by omega)⟩
  · refine ⟨_, cap, rfl, hnc, hcm, fun _ => ⟨g, 0, rfl, (Array.getElem?_eq_some_iff.1 hh).1, fun j hj => ⟨?_, hf j hj⟩⟩⟩
    rw [Nat.zero_add, h.cellAt j (by omega)]
    simp [bytesV, hj]

/-! ### the law's 'same' -/
set_option maxHeartbeats 1000000 in
theorem same_any (A1 A2 : Option Addr) (n c1 c2 : Nat) (w : World) (hn : n ≤ 1000000)
    (h : n = 0 ∨ ∃ g1 g2 : Nat, A1 = some ⟨g1, 0, none⟩ ∧ A2 = some ⟨g2, 0, none⟩ ∧ ∀ k, k < n → ∃ z : Int, w.cell? ⟨g1, k, none⟩ = some (.int .i32 z) ∧ w.cell? ⟨g2, k, none⟩ = some (.int .i32 z)) :
    Calls Tryd.prog 29 #[.slice A1 n c1, .slice A2 n c2] w fun e w' => e = .returned (.bool true) ∧ ∃ q, w' = w.drewN q := by
  rcases h with rfl | ⟨g1, g2, rfl, rfl, hc⟩
  · go_enter Tryd.func29, Tryd.ntmps29
    go_wp2
    go_loop [5] (fun i => i = .int .i64 0) (fun _ => 0)
    case atStart => rfl
    case round =>
      subst hrel
      go_wp2
      go_ret
      exact ⟨rfl, 0, rfl⟩
  · have HC := Lib.hid hc
    clear hc
    go_enter Tryd.func29, Tryd.ntmps29
    go_wp2
    go_loopw [5] (fun i wr => ∃ k q : Nat, k ≤ n ∧ i = .int .i64 k ∧ wr = w.drewN q) (fun i _ => n - (RowKit.intOf i).toNat)
    case atStart => exact ⟨0, 0, by omega, rfl, rfl⟩
    case round =>
      obtain ⟨k, q, hk, rfl, rfl⟩ := hrel
      by_cases hlt : k < n
      · obtain ⟨z, h1, h2⟩ := HC.out k hlt
        have k1 : (k : Int) < (n : Int) := by omega
        have k0 : (0 : Int) ≤ (k : Int) := by omega
        go_wp2
        go_quiet (fail)
        go_wp2
        go_roundw
        case rel => exact ⟨k + 1, _, by omega, by go_num, rfl⟩
        case measure => simp [RowKit.intOf]; omega
      · have k1 : (n : Int) ≤ (k : Int) := by omega
        go_wp2
        go_ret
        exact ⟨rfl, q, rfl⟩

theorem Tryd.info5 : (Tryd.prog.info? 5).map (fun i => (i.zero, i.size, i.bytes)) = some (some (.int .u8 0), 1, 1) := by kernel_rfl

/-- What the law's last part knows of a slice that came in. -/
def Arg (w : World) (A : Option Addr) (n cap : Nat) (f : Nat → Nat) : Prop := Sl w w.heap.size A n cap f ∧ (A = none → cap = 0)
theorem Arg.below {w w' : World} {A : Option Addr} {n cap : Nat} {f : Nat → Nat} (h : Arg w A n cap f) (hb : Below w.heap.size w w') : Arg w' A n cap f := by
  have hs := h.1.below hb
  exact ⟨⟨hs.1, hs.2.1, fun hn => by obtain ⟨b, off, rfl, hlt, hB⟩ := hs.2.2 hn; exact ⟨b, off, rfl, Nat.lt_of_lt_of_le hlt hb.size, hB⟩⟩, h.2⟩
theorem Arg.src {w : World} {A : Option Addr} {n cap : Nat} {f : Nat → Nat} (h : Arg w A n cap f) : Src w A n cap (bytesV n f) := src_of_sl h.1 h.2

theorem oneCell_bytes (n : Nat) (f : Nat → Nat) : ∀ u ∈ bytesV n f, u.oneCell' = true := by
  intro u hu
  simp only [bytesV, List.mem_map] at hu
  obtain ⟨_, _, rfl⟩ := hu
  rfl
theorem oneCell_runes (xs : List Rec) : ∀ u ∈ runes xs, u.oneCell' = true := by
  intro u hu
  simp only [runes, List.mem_map] at hu
  obtain ⟨_, _, rfl⟩ := hu
  rfl
theorem ints_runes (xs : List Rec) : ∀ u ∈ runes xs, ∃ z : Int, u = .int .i32 z := by
  intro u hu
  simp only [runes, List.mem_map] at hu
  obtain ⟨x, _, rfl⟩ := hu
  exact ⟨_, rfl⟩
theorem same_pre {w : World} {b1 b2 n : Nat} {v1 v2 : Value} {Y : List Value} (h1 : w.ownsRow b1 21 1 v1 n Y) (h2 : w.ownsRow b2 21 1 v2 n Y) (hz : ∀ u ∈ Y, ∃ z : Int, u = .int .i32 z) :
    ∃ A1 c1 A2 c2, v1 = .slice A1 n c1 ∧ v2 = .slice A2 n c2 ∧
      (n = 0 ∨ ∃ g1 g2 : Nat, A1 = some ⟨g1, 0, none⟩ ∧ A2 = some ⟨g2, 0, none⟩ ∧ ∀ k, k < n → ∃ z : Int, w.cell? ⟨g1, k, none⟩ = some (.int .i32 z) ∧ w.cell? ⟨g2, k, none⟩ = some (.int .i32 z)) := by
  have hl := h1.1
  rcases Nat.eq_zero_or_pos n with h0 | h0
  · obtain ⟨A1, c1, e1, _⟩ := src_of_own h1
    obtain ⟨A2, c2, e2, _⟩ := src_of_own h2
    exact ⟨A1, c1, A2, c2, e1, e2, .inl h0⟩
  · obtain ⟨m, rfl⟩ : ∃ m, n = m + 1 := ⟨n - 1, by omega⟩
    obtain ⟨g1, c1, rfl⟩ := ownsRow_succ h1
    obtain ⟨g2, c2, rfl⟩ := ownsRow_succ h2
    refine ⟨_, c1, _, c2, rfl, rfl, .inr ⟨g1, g2, rfl, rfl, fun k hk => ?_⟩⟩
    have hk' : k < Y.length := by omega
    obtain ⟨z, hzz⟩ := hz Y[k] (List.getElem_mem hk')
    have hy : Y[k]? = some (.int .i32 z) := by rw [List.getElem?_eq_getElem hk', hzz]
    exact ⟨z, by rw [h1.cellAt k (by omega), hy], by rw [h2.cellAt k (by omega), hy]⟩
theorem own_empty (w : World) (base e : Nat) (hb : base ≤ w.heap.size) : (w.alloc (.cells #[] e)).ownsRow base e 1 (.slice (some ⟨w.heap.size, 0, none⟩) 0 0) 0 [] :=
  ⟨rfl, .inr ⟨w.heap.size, 0, #[], rfl, hb, World.alloc_heap_new w _, Nat.le_refl _, Nat.zero_le _, rfl, rfl⟩⟩

set_option maxHeartbeats 4000000 in
set_option maxRecDepth 100000 in
theorem joins_walk (A1 : Option Addr) (n1 c1 : Nat) (f1 : Nat → Nat) (A2 : Option Addr) (n2 c2 : Nat) (f2 : Nat → Nat) (w : World) (hT : Tabs w) (ha : Arg w A1 n1 c1 f1) (hb : Arg w A2 n2 c2 f2) :
    Calls Tryd.prog 8 #[.slice A1 n1 c1, .slice A2 n2 c2] w fun e w' => e = .returned (.bool true) ∧ Below w.heap.size w w' := by
  have HT := Lib.hid hT
  have H1 := Lib.hid ha
  have H2 := Lib.hid hb
  have HA := Lib.hid awake_any
  clear hT ha hb
  by_cases hl : 200 < n1
  · have d : (200 : Int) < (n1 : Int) := by omega
    have d' : decide ((200 : Int) < (n1 : Int)) = true := by simp; omega
    go_enter Tryd.func8, Tryd.ntmps8
    go_wp2_with fail
    refine (HA.out _ HT.out).mono ?_
    rintro e w1 ⟨rfl, hb⟩
    go_wp2
    go_ret
    exact ⟨rfl, hb⟩
  · have d : ¬ ((200 : Int) < (n1 : Int)) := by omega
    have d' : decide ((200 : Int) < (n1 : Int)) = false := by simp; omega
    by_cases hl2 : 200 < n2
    · have g : (200 : Int) < (n2 : Int) := by omega
      have g' : decide ((200 : Int) < (n2 : Int)) = true := by simp; omega
      go_enter Tryd.func8, Tryd.ntmps8
      go_wp2_with fail
      refine (HA.out _ HT.out).mono ?_
      rintro e w1 ⟨rfl, hb⟩
      go_wp2
      go_ret
      exact ⟨rfl, hb⟩
    · have g : ¬ ((200 : Int) < (n2 : Int)) := by omega
      have g' : decide ((200 : Int) < (n2 : Int)) = false := by simp; omega
      have V1 := Lib.hid fun W (h1 : Tabs W) (h2 : Arg W A1 n1 c1 f1) => (callsIn_wide (n := 8)).1 (valid_in 8 (by omega) A1 n1 c1 f1 W h1 h2.1)
      have N1 := Lib.hid fun W (h1 : Tabs W) (h2 : Arg W A1 n1 c1 f1) => (callsIn_wide (n := 8)).1 (count_in 8 (by omega) A1 n1 c1 f1 W h1 h2.1 (by omega))
      have L1 := Lib.hid fun W (h1 : Tabs W) (h2 : Arg W A1 n1 c1 f1) => (callsIn_wide (n := 8)).1 (all_in 8 (by omega) A1 n1 c1 f1 W h1 h2.1 (by omega))
      have L2 := Lib.hid fun W (h1 : Tabs W) (h2 : Arg W A2 n2 c2 f2) => (callsIn_wide (n := 8)).1 (all_in 8 (by omega) A2 n2 c2 f2 W h1 h2.1 (by omega))
      have L3 := Lib.hid fun A c W (h1 : Tabs W) (h2 : Sl W W.heap.size A (n1 + n2) c (fab n1 f1 f2)) => (callsIn_wide (n := 8)).1 (all_in 8 (by omega) A (n1 + n2) c (fab n1 f1 f2) W h1 h2 (by omega))
      have Tk : Hid (∀ W', Below w.heap.size w W' → Tabs W') := Lib.hid fun W' hb => HT.out.below hb HT.out.2
      cases hv : (rest n1 f1 0).all fun x => x.2.2.2
      · rw [hv] at V1
        have hpos : (0 : Int) < ((rest n1 f1 0).length : Int) := by
          cases e : rest n1 f1 0 with
          | nil => rw [e] at hv; simp at hv
          | cons x xs => simp
        clear hv
        generalize (rest n1 f1 0).length = N at *
        have hpos' : 0 < N := by omega
        have hpos'' : decide (0 < N) = true := by simp; omega
        go_enter Tryd.func8, Tryd.ntmps8
        go_wp2_with fail
        refine (HA.out _ HT.out).mono ?_
        rintro e w0 ⟨rfl, hb0⟩
        go_wp2_with fail
        refine (V1.out _ (Tk.out _ hb0) (H1.out.below hb0)).mono ?_
        rintro e w1 ⟨rfl, hb1⟩
        have hb1' := hb0.trans (hb1.mono hb0.size)
        go_wp2_with fail
        refine (N1.out _ (Tk.out _ hb1') (H1.out.below hb1')).mono ?_
        rintro e w2 ⟨rfl, hb2⟩
        have hb2' := hb1'.trans (hb2.mono hb1'.size)
        clear hb0 hb1 hb2 hb1'
        go_wp2
        go_ret
        exact ⟨rfl, hb2'⟩
      · rw [hv] at V1
        have hr := runes_ab (nb := n2) (fb := f2) (fun x hx => (List.all_eq_true.1 hv) x hx)
        have HR := Lib.hid hr
        clear hv hr
        obtain ⟨i5, hi5, hz50, hz51, hz52⟩ := info_parts Tryd.info5
        obtain ⟨i21, hi21, hz210, hz211, hz212⟩ := info_parts Tryd.info21
        go_enter Tryd.func8, Tryd.ntmps8
        go_wp2_with fail
        refine (HA.out _ HT.out).mono ?_
        rintro e w0 ⟨rfl, hb0⟩
        go_wp2_with fail
        refine (V1.out _ (Tk.out _ hb0) (H1.out.below hb0)).mono ?_
        rintro e w1 ⟨rfl, hb1⟩
        have hb1' := hb0.trans (hb1.mono hb0.size)
        clear hb0 hb1
        have E0 := own_empty w1 w.heap.size 5 hb1'.size
        have hba := hb1'.alloc hb1'.size (.cells #[] 5)
        have S1 := (H1.out.below hba).src
        have hba' := hba.size
        go_wp2_with (first
          | (at_builtin
             refine wpList_append_src rfl (.tmp 25) (.tmp 26) 22 rfl w.heap.size 5 i5 (.int .u8 0) 1 Tryd.underlying22 hi5 hz50 hz51 hz52 rfl _ 0 [] rfl E0 A1 n1 c1 (bytesV n1 f1) rfl S1 (oneCell_bytes _ _) (by unfold maxLen; omega) (by omega) hba' ?_
             intro v1 w3 ho3 hb3
             have hbw3 : Below w.heap.size w w3 := hba.trans hb3
             have S2 := (H2.out.below hbw3).src
             have hbw3' := hbw3.size)
          | (at_builtin
             refine wpList_append_src rfl (.tmp 27) (.tmp 28) 22 rfl w.heap.size 5 i5 (.int .u8 0) 1 Tryd.underlying22 hi5 hz50 hz51 hz52 rfl v1 (0 + n1) ([] ++ bytesV n1 f1) rfl ho3 A2 n2 c2 (bytesV n2 f2) rfl S2 (oneCell_bytes _ _) (by unfold maxLen; omega) (by omega) hbw3' ?_
             intro v2 w4 ho4 hb4
             have hbw4 := hbw3.trans hb4)
          | fail)
        rw [List.nil_append, bytesV_ab, Nat.zero_add] at ho4
        have hab : ∀ j, j < n1 + n2 → fab n1 f1 f2 j < 256 := by
          intro j hj
          unfold fab
          by_cases c : j < n1
          · rw [if_pos c]
            obtain ⟨_, _, _, _, hB⟩ := H1.out.1.2.2 (by omega)
            exact (hB j c).2
          · rw [if_neg c]
            obtain ⟨_, _, _, _, hB⟩ := H2.out.1.2.2 (by omega)
            exact (hB (j - n1) (by omega)).2
        obtain ⟨A, c, rfl, hsl⟩ := sl_of_own ho4 hab
        clear ho3 ho4 S1 S2 E0 hb3 hb4 hbw3 hbw3' hba hba' hb1' hab
        refine (L3.out _ _ _ (Tk.out _ hbw4) hsl).mono ?_
        rintro e w5 ⟨v5, rfl, ho5, _, hb5⟩
        have hbw5 := hbw4.trans (hb5.mono hbw4.size)
        clear hb5 hsl
        have E0 := own_empty w5 w5.heap.size 21 (Nat.le_refl _)
        have hba := (Below.refl _ w5).alloc (Nat.le_refl _) (.cells #[] 21)
        have hw5 := hbw5.size
        have hbw := fun W (h : Below w5.heap.size w5 W) => hbw5.trans (h.mono hw5)
        have HBW := Lib.hid hbw
        clear hbw
        go_wp2_with fail
        refine (L1.out _ (Tk.out _ (HBW.out _ hba)) (H1.out.below (HBW.out _ hba))).mono ?_
        rintro e w6 ⟨v6, rfl, ho6, _, hb6⟩
        have hb6' := hba.trans (hb6.mono hba.size)
        have E6 := ownsRow_below E0 hb6
        obtain ⟨A6, c6, rfl, s6⟩ := src_of_own ho6
        have hb6s := hb6'.size
        have hr1 := rest_length n1 f1
        have hr2 := rest_length n2 f2
        have hl1 : (runes (rest n1 f1 0)).length = (rest n1 f1 0).length := by simp [runes]
        have hl2 : (runes (rest n2 f2 0)).length = (rest n2 f2 0).length := by simp [runes]
        have oc1 := oneCell_runes (rest n1 f1 0)
        have oc2 := oneCell_runes (rest n2 f2 0)
        have iz1 := ints_runes (rest n1 f1 0)
        have iz2 := ints_runes (rest n2 f2 0)
        obtain ⟨X1, hX1⟩ : ∃ X, runes (rest n1 f1 0) = X := ⟨_, rfl⟩
        obtain ⟨X2, hX2⟩ : ∃ X, runes (rest n2 f2 0) = X := ⟨_, rfl⟩
        rw [hX1] at s6 hl1 oc1 HR iz1
        rw [hX1]
        rw [hX2] at L2 hl2 oc2 HR iz2
        have IZ := Lib.hid (And.intro iz1 iz2)
        clear iz1 iz2
        have hx1 : X1.length ≤ 200 := by omega
        have hx2 : X2.length ≤ 200 := by omega
        clear hb6 hba E0 ho6 hX1 hX2 hl1 hl2 hr1 hr2
        go_wp2_with (first
          | (at_builtin
             refine wpList_append_src rfl (.tmp 32) (.tmp 34) 30 rfl w5.heap.size 21 i21 (.int .i32 0) 4 Tryd.underlying30 hi21 hz210 hz211 hz212 rfl _ 0 [] rfl E6 A6 X1.length c6 X1 rfl s6 oc1 (by unfold maxLen; omega) (by omega) hb6s ?_
             intro v7 w7 ho7 hb7
             have hb7' := hb6'.trans hb7)
          | fail)
        refine (L2.out _ (Tk.out _ (HBW.out _ hb7')) (H2.out.below (HBW.out _ hb7'))).mono ?_
        rintro e w8 ⟨v8, rfl, ho8, _, hb8⟩
        have hb8' := hb7'.trans (hb8.mono hb7'.size)
        have o7 := ownsRow_below ho7 hb8
        obtain ⟨A8, c8, rfl, s8⟩ := src_of_own ho8
        have hb8s := hb8'.size
        clear hb6' E6 s6 hb6s ho7 hb7 hb7' ho8 hb8
        go_wp2_with (first
          | (at_builtin
             refine wpList_append_src rfl (.tmp 35) (.tmp 37) 30 rfl w5.heap.size 21 i21 (.int .i32 0) 4 Tryd.underlying30 hi21 hz210 hz211 hz212 rfl v7 (0 + X1.length) ([] ++ X1) rfl o7 A8 X2.length c8 X2 rfl s8 oc2 (by unfold maxLen; omega) (by omega) hb8s ?_
             intro v9 w9 ho9 hb9
             have hb9' := hb8'.trans hb9)
          | fail)
        have o5 := ownsRow_below ho5 hb9'
        rw [HR.out, List.length_append] at o5
        rw [List.nil_append, Nat.zero_add] at ho9
        obtain ⟨B1, d1, B2, d2, rfl, rfl, hs⟩ := same_pre o5 ho9 (fun u hu => (List.mem_append.1 hu).elim (IZ.out.1 u) (IZ.out.2 u))
        have C := same_any B1 B2 (X1.length + X2.length) d1 d2 w9 (by omega) hs
        have hbz := HBW.out _ hb9'
        clear hs o5 ho9 hb9 hb9' hb8s o7 s8 hb8' oc1 oc2 ho5
        refine C.mono ?_
        rintro e w10 ⟨rfl, q, rfl⟩
        have hbq := below_drewN hbz q
        go_wp2
        go_ret
        exact ⟨rfl, hbq⟩
end Go.Proofs.YtimiinnnmdcmhaaDoor
