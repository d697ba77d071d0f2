/-
  A function that is yielded to node by node, and what it comes to; what one block's turning leaves of an expression; the function that Right yields to.
-/
import Derived.Test.YtegkogadceodlaaShp
import Derived.IntWalk
namespace Go.Proofs.Ytegkogadceodlaa
open Go.RowKit Go.Shelf Go.Lib

/-- A node, then those within it, as long as the answer is yes. -/
def visG {σ : Type} (nx : E → σ → Bool × σ) : E → σ → Bool × σ
  | .mk k c ks, s => match nx (.mk k c ks) s with
    | (true, s') => kids nx ks s'
    | (false, s') => (false, s')
where kids {σ : Type} (nx : E → σ → Bool × σ) : List E → σ → Bool × σ
  | [], s => (true, s)
  | e :: r, s => match visG nx e s with
    | (true, s') => kids nx r s'
    | (false, s') => (false, s')
abbrev visL {σ : Type} (nx : E → σ → Bool × σ) : List E → σ → Bool × σ := visG.kids nx
theorem visG_eq {σ : Type} (nx : E → σ → Bool × σ) (e : E) (s : σ) : visG nx e s = if (nx e s).1 then visL nx e.ks (nx e s).2 else (false, (nx e s).2) := by
  cases e with
  | mk k c ks =>
    show (match nx (.mk k c ks) s with
      | (true, s') => visL nx ks s'
      | (false, s') => (false, s')) = _
    rcases nx (.mk k c ks) s with ⟨_ | _, s'⟩ <;> rfl
theorem visL_append {σ : Type} (nx : E → σ → Bool × σ) (a b : List E) (s : σ) : visL nx (a ++ b) s = if (visL nx a s).1 then visL nx b (visL nx a s).2 else (false, (visL nx a s).2) := by
  induction a generalizing s with
  | nil => simp [visL, visG.kids]
  | cons e r ih =>
    show (match visG nx e s with
      | (true, s') => visL nx (r ++ b) s'
      | (false, s') => (false, s')) = _
    rcases h : visG nx e s with ⟨_ | _, s'⟩
    · simp [visL, visG.kids, h]
    · simp only [ih]
      simp [visL, visG.kids, h]
theorem visL_take {σ : Type} (nx : E → σ → Bool × σ) (ks : List E) (i : Nat) (e : E) (s : σ) (h : ks[i]? = some e) :
    visL nx (ks.take (i + 1)) s = if (visL nx (ks.take i) s).1 then visG nx e (visL nx (ks.take i) s).2 else (false, (visL nx (ks.take i) s).2) := by
  rw [List.take_add_one, h, visL_append]
  have : visL nx (some e).toList (visL nx (ks.take i) s).2 = visG nx e (visL nx (ks.take i) s).2 := by
    show (match visG nx e _ with
      | (true, s') => (true, s')
      | (false, s') => (false, s')) = _
    rcases visG nx e (visL nx (ks.take i) s).2 with ⟨_ | _, s'⟩ <;> rfl
  rw [this]
/-- Where the answer is no among the first ones, it is for all. -/
theorem visL_stop {σ : Type} (nx : E → σ → Bool × σ) (ks : List E) (i : Nat) (s s' : σ) (h : visL nx (ks.take i) s = (false, s')) : visL nx ks s = (false, s') := by
  have := visL_append nx (ks.take i) (ks.drop i) s
  rw [List.take_append_drop, h] at this
  simpa using this

theorem grown_trans {a b c : World} {row : Option Nat} (h : a.grownBy b row) (k : b.grownBy c row) : a.grownBy c row :=
  ⟨k.os.trans h.os, k.tape.trans h.tape, k.output.trans h.output, Nat.le_trans h.size k.size, fun i hi hn => (k.block i (Nat.lt_of_lt_of_le hi h.size) hn).trans (h.block i hi hn)⟩
theorem grown_below {a b : World} {row : Option Nat} (h : Below a.heap.size a b) : a.grownBy b row := ⟨h.os, h.tape, h.output, h.size, fun k hk _ => h.block k hk⟩
theorem grown_set (w : World) (b : Nat) (v : Value) : w.grownBy (w.setCell ⟨b, 0, none⟩ v) (some b) :=
  ⟨rfl, rfl, rfl, by simp, fun k _ hk => Below.heap_setCell _ _ _ k (fun e => hk (by rw [e]))⟩
theorem Nd.grown {w w' : World} {B g : Nat} {e : E} {v : Value} (h : Nd w B e v) (hg : w.grownBy w' (some g)) (hB : B ≤ g) : Nd w' B e v :=
  h.carry (Nat.le_refl _) (fun b o u hl hu => hg.cell hu (by simp; omega)) _ _ _ (Nat.le_refl _)
theorem boxed_below {W W' : World} {B t : Nat} {v : Value} (h : Boxed W B t v) (hb : Below W.heap.size W W') : Boxed W' B t v := (hb.block B h.lt).trans h
theorem boxed_grown {W W' : World} {B g t : Nat} {v : Value} (h : Boxed W B t v) (hg : W.grownBy W' (some g)) (hne : B ≠ g) : Boxed W' B t v := (hg.block B h.lt (by simpa using hne)).trans h

/-- What Right's function says of a node: how many there were ahead of it. -/
def nxR (e : E) (m : Nat) : Bool × Nat := (decide (m + 1 ≤ 2000) && decide (e.k ≠ 9) && shapedK e.k e.c e.ks.length, m + 1)

set_option maxHeartbeats 4000000 in
theorem right1_any (k c : Int) (A : Option Addr) (n cap g m : Nat) (w : World) (hn : n ≤ 9223372036854775807) (hg : Boxed w g 3 (.int .i64 m)) (hm : m ≤ 2000) :
    Calls Try.prog 60 #[.agg #[.int .i64 k, .int .i64 c, .slice A n cap], .pointer (some ⟨g, 0, none⟩)] w fun r w' =>
      r = .returned (.bool (decide (m + 1 ≤ 2000) && decide (k ≠ 9) && shapedK k c n)) ∧ w.grownBy w' (some g) ∧ Boxed w' g 3 (.int .i64 (m + 1 : Nat)) := by
  have hg0 := hg.alloc (.cells #[.int .i64 k, .int .i64 c, .slice A n cap] 33)
  have hgl := hg.lt
  have g0 := hg.cell
  have z0 := hg.frozen
  have hw : wrap64 ((m : Int) + 1) = (m : Int) + 1 := by unfold wrap64; omega
  have hne : g ≠ w.heap.size := by omega
  have hgr0 : w.grownBy (w.alloc (.cells #[.int .i64 k, .int .i64 c, .slice A n cap] 33)) (some g) := World.grownBy_alloc _ _ _
  have C := Lib.hid (fun W => shaped_any k c A n cap W hn)
  obtain ⟨SB, hSB⟩ : ∃ b, shapedK k c n = b := ⟨_, rfl⟩
  rw [hSB] at C ⊢
  have hfin : w.grownBy ((w.setCell ⟨g, 0, none⟩ (.int .i64 ((m : Int) + 1))).alloc (.cells #[.int .i64 k, .int .i64 c, .slice A n cap] 33)) (some g) ∧ Boxed ((w.setCell ⟨g, 0, none⟩ (.int .i64 ((m : Int) + 1))).alloc (.cells #[.int .i64 k, .int .i64 c, .slice A n cap] 33)) g 3 (.int .i64 ((m : Int) + 1)) :=
    ⟨grown_trans (grown_set w g _) (World.grownBy_alloc _ _ _), (hg.set _).alloc _⟩
  have H := Lib.hid hfin
  have C1 := Lib.hid (C.out ((w.setCell ⟨g, 0, none⟩ (.int .i64 ((m : Int) + 1))).alloc (.cells #[.int .i64 k, .int .i64 c, .slice A n cap] 33)))
  have hc : ((m + 1 : Nat) : Int) = (m : Int) + 1 := by omega
  rw [hc]
  clear hfin hc
  by_cases h1 : m + 1 ≤ 2000
  · have i1 : ((m : Int) + 1 ≤ 2000) := by omega
    rw [decide_eq_true h1]
    have HM := Lib.hid (And.intro hm h1)
    clear hg hg0 hgr0 hSB hm h1
    by_cases k9 : k = 9
    · subst k9
      rw [show (true && decide ((9 : Int) ≠ 9) && SB) = false by simp]
      go_enter Try.func60, Try.ntmps60
      go_wp2
      go_ret
      exact ⟨rfl, H.out⟩
    · have q9 : (k == 9) = false := by simpa using k9
      have q9' : (k != 9) = true := by simpa using k9
      rw [show (true && decide (k ≠ 9) && SB) = SB by simp [k9]]
      go_enter Try.func60, Try.ntmps60
      go_wp2_with fail
      refine C1.out.mono ?_
      rintro r w1 ⟨rfl, hb⟩
      have HZ := Lib.hid (And.intro (grown_trans H.out.1 (grown_below hb)) (boxed_below H.out.2 hb))
      clear hb
      go_wp2
      go_ret
      exact ⟨rfl, HZ.out⟩
  · have i1 : decide ((m : Int) + 1 ≤ 2000) = false := by simp; omega
    rw [decide_eq_false h1]
    rw [show (false && decide (k ≠ 9) && SB) = false by simp]
    have HM := Lib.hid (And.intro hm h1)
    clear hg hg0 hgr0 hSB hm h1
    go_enter Try.func60, Try.ntmps60
    go_wp2
    go_ret
    exact ⟨rfl, H.out⟩
end Go.Proofs.Ytegkogadceodlaa
