/-
  Contract: virguleref25.Classes; one number more.
-/
import Derived.Test.YtflhdfbpafhjlaaOrw
import Derived.Test.YtflhdfbpafhjlaaCrc
namespace Go.Proofs.Ytflhdfbpafhjlaa
open Go.RowKit Go.Shelf Go.Lib Go.Sort Go.Maps

/-- One number more. -/
theorem wpList_appN {ops : Array Oper} {rest : List Oper} {o : Oper} {a : Act} {w : World} {Q : Exit → Act → World → Prop} (hgd : o.guard = none) (s x : Operand)
    (ho : o.op = .call { callee := .builtin .append, args := #[s, x], argTypes := #[33, 33] }) (base : Nat) (v : Value) (l : List Int) (t : Int) (hs : a.eval s = v) (w0 : World) (h0 : OwnI w0 base l v) (hw0 : w0.alloc (.cells #[.int .i64 t] 3) = w)
    (hx : a.eval x = .slice (some ⟨w0.heap.size, 0, none⟩) 1 1) (h63 : l.length ≤ 1000000) (hbase : base ≤ w0.heap.size)
    (h : ∀ g cap w', OwnI w' base (l ++ [t]) (.slice (some ⟨g, 0, none⟩) (l.length + 1) cap) → Below base w0 w' → wpList Try.prog ops Q rest (a.put o.dst (.slice (some ⟨g, 0, none⟩) (l.length + 1) cap)) w') :
    wpList Try.prog ops Q (o :: rest) a w := by
  obtain ⟨i, hi⟩ : ∃ i, Try.prog.info? 3 = some i := ⟨_, rfl⟩
  have h3 := info3
  rw [hi] at h3
  simp at h3
  obtain ⟨hz, hs1, hb1⟩ := h3
  subst hw0
  have al := below_new w0 (.cells #[.int .i64 t] 3)
  have hown := ownsRow_below h0 al
  have hsz : base ≤ (w0.alloc (.cells #[.int .i64 t] 3)).heap.size := by rw [World.size_alloc]; omega
  refine wpList_append_one hgd s x 33 ho base 3 i _ 8 Try.underlying33 hi hz hs1 hb1 (by decide) rfl v l.length (intsC l) hs hown ⟨w0.heap.size, 0, none⟩ (.int .i64 t) hx ((cells_new w0 #[.int .i64 t] 3).cell 0) rfl h63 hsz _ rfl ?_
  intro g cap w' h1 h2 _ _
  refine h g cap w' ?_ ?_
  · unfold OwnI
    rw [intsC_append, List.length_append]
    exact h1
  · refine (al.mono hbase).trans ⟨h2.os, h2.tape, h2.output, h2.size, fun k hk => h2.block k (by omega) (fun e => by have := (own_block_lt hown k e.symm).1; omega)⟩
theorem ownI_nil (w : World) (base : Nat) : OwnI w base [] (.slice none 0 0) := ⟨rfl, .inl ⟨rfl, rfl⟩⟩
def clsL (l : List IT) : List Int := l.map fun x => (classR x.r : Int)

set_option maxHeartbeats 4000000 in
theorem rcls_any (l : List IT) (A : Option Addr) (c : Nat) (w : World) (hA : IsA w w.heap.size l A c) (hR : ∀ x ∈ l, R32 x.r) (hl : l.length ≤ 1000) :
    Calls Try.prog 15 #[.slice A l.length c] w fun e w' => ∃ v, e = .returned v ∧ OwnI w' w.heap.size (clsL l) v ∧ Below w.heap.size w w' := by
  obtain ⟨n, hn⟩ : ∃ n, l.length = n := ⟨_, rfl⟩
  rw [hn] at hl ⊢
  have HH := Lib.hid (And.intro hA (And.intro hn hR))
  clear hA hn hR
  go_enter Try.func15, Try.ntmps15
  go_wp2_with fail
  go_loopw [3, 4] (fun v i wr => ∃ k : Nat, i = .int .i64 (k : Int) ∧ k ≤ n ∧ OwnI wr w.heap.size (clsL (l.take k)) v ∧ Below w.heap.size w wr) (fun _ i _ => n - (RowKit.intOf i).toNat)
  case atStart => exact ⟨0, rfl, Nat.zero_le _, by simpa [clsL] using ownI_nil _ _, Below.refl _ _⟩
  case round =>
    obtain ⟨k, rfl, hk, ho, hb⟩ := hrel
    by_cases hlt : k < n
    · obtain ⟨x, hx⟩ : ∃ x, l[k]? = some x := ⟨l[k]'(by rw [HH.out.2.1]; exact hlt), List.getElem?_eq_getElem _⟩
      obtain ⟨b, o, rfl, hbl, hc⟩ := (HH.out.1.below hb).r k x hx
      have hr := HH.out.2.2 x (List.mem_of_getElem? hx)
      have i1 : (k : Int) < (n : Int) := by omega
      have i2 : (k : Int) ≤ 1000 := by omega
      have C := rclass_any x.r wr hr.1 hr.2
      rw [← class_eq x.r] at C
      have htk : clsL (l.take (k + 1)) = clsL (l.take k) ++ [(classR x.r : Int)] := by rw [List.take_add_one, hx]; simp [clsL]
      have hlen : (clsL (l.take k)).length = k := by unfold clsL; rw [List.length_map, List.length_take, HH.out.2.1]; omega
      obtain ⟨P, hP⟩ : ∃ P, clsL (l.take k) = P := ⟨_, rfl⟩
      rw [hP] at htk hlen ho
      generalize classR x.r = z at C htk
      obtain ⟨xr, xat, xsz, xf, xx, xn, xp⟩ := x
      unfold itA at hc
      simp only at C hc
      have c0 := hc 0 _ rfl
      simp only [Nat.add_zero] at c0
      have H1 := Lib.hid (And.intro ho (And.intro hb (And.intro htk hlen)))
      clear ho hb hc htk hx hP hr
      go_wp2_with fail
      refine C.mono ?_
      rintro e w2 ⟨rfl, b2⟩
      clear C c0
      have H2 := Lib.hid (And.intro (ownsRow_below H1.out.1 b2) (below_on H1.out.2.1 b2))
      have hbase : w.heap.size ≤ w2.heap.size := H2.out.2.size
      have hpre : P.length ≤ 1000000 := by omega
      clear b2
      go_wp2_with (at_builtin; refine wpList_appN rfl (.tmp 11) (.tmp 18) rfl w.heap.size _ P (z : Int) rfl w2 H2.out.1 rfl rfl hpre hbase ?_)
      intro g cp w4 o4 b4
      rw [← H1.out.2.2.1] at o4
      have HE := Lib.hid (And.intro o4 (H2.out.2.trans b4))
      clear o4 b4 hbase hpre hlen
      go_wp2_with fail
      go_roundw
      case rel => exact ⟨k + 1, by go_num, by omega, HE.out.1, HE.out.2⟩
      case measure => simp [RowKit.intOf]; omega
    · obtain rfl : k = n := by omega
      have i1 : ¬ (k : Int) < (k : Int) := by omega
      rw [List.take_of_length_le (by rw [HH.out.2.1]; exact Nat.le_refl _)] at ho
      have H1 := Lib.hid (And.intro ho hb)
      clear ho hb
      go_wp2_with fail
      go_ret
      exact ⟨_, rfl, H1.out.1, H1.out.2⟩
end Go.Proofs.Ytflhdfbpafhjlaa
