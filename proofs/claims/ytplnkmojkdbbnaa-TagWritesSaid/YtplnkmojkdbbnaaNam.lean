/-
  Contracts: until with what oneOf, noneOf made; parser.name.
-/
import Derived.Test.YtplnkmojkdbbnaaLow
import Derived.Lib.QuietBelow
import Derived.Deep.RegionWith
namespace Go.Proofs.Ytplnkmojkdbbnaa
open Go.RowKit Go.Shelf Go.Lib Go.Maps Go.Sort

/-- A parser, and the bytes that it reads. -/
structure PS (w : World) (g b o cap : Nat) (xs : List Nat) (n : Nat) (k s nm ats sg cl : Value) : Prop where
  c : Cells w g 62 (PCs b o xs.length cap n k s nm ats sg cl)
  y : BY w g xs (some ⟨b, o, none⟩) cap
  n : n ≤ xs.length
theorem PS.on {w w' : World} {g b o cap : Nat} {xs : List Nat} {n : Nat} {k s nm ats sg cl : Value} (h : PS w g b o cap xs n k s nm ats sg cl) (hb : Below w.heap.size w w') : PS w' g b o cap xs n k s nm ats sg cl :=
  ⟨h.c.on hb, h.y.below (hb.mono (Nat.le_of_lt h.c.lt)), h.n⟩
theorem PS.drew {w : World} {g b o cap : Nat} {xs : List Nat} {n : Nat} {k s nm ats sg cl : Value} (h : PS w g b o cap xs n k s nm ats sg cl) : PS w.drew g b o cap xs n k s nm ats sg cl := h.on (Below.refl _ _).drew
theorem fzy {w w' : World} {g : Nat} {xs : List Nat} {A : Option Addr} {cap : Nat} (h : BY w g xs A cap) (hf : Fz (· = g) w w') (hg : g < w.heap.size) : BY w' g xs A cap := h.fz hf (Nat.le_of_lt hg) (fun k hk e => by omega)
/-- What until answers: a run, somewhere. -/
def UOk (w : World) (g b o cap n : Nat) (p : Nat → Bool) (xs : List Nat) (k s nm ats sg cl : Value) (e : Ending) (w' : World) : Prop :=
  ∃ A c, e = .returned (.slice A (rnN p xs n) c) ∧ BY w' g (runW p (xs.drop n)) A c ∧ Fz (· = g) w w' ∧ PS w' g b o cap xs (n + rnN p xs n) k s nm ats sg cl
theorem UntOk.uok {w : World} {g b o cap n : Nat} {p : Nat → Bool} {xs : List Nat} {k s nm ats sg cl : Value} {e : Ending} {w' : World} (hp : PS w g b o cap xs n k s nm ats sg cl) (h : UntOk w g b o cap n p xs k s nm ats sg cl e w') : UOk w g b o cap n p xs k s nm ats sg cl e w' := by
  obtain ⟨A, c, h1, h2, h3, h4⟩ := h
  exact ⟨A, c, h1, h2, h3, h4, fzy hp.y h3 hp.c.lt, rnN_le p xs n hp.n⟩
theorem untO_any {g b o cap n : Nat} {xs : List Nat} {k s nm ats sg cl : Value} (w : World) (hp : PS w g b o cap xs n k s nm ats sg cl) (l : List Nat) (hl : ∀ x ∈ l, x < 256) (p : Nat → Bool) (hlp : ∀ c, l.contains c = p c) (gs : Nat) (hs : Cells w gs 9 #[strV l]) :
    Calls Try.prog 39 #[.pointer (some ⟨g, 0, none⟩), .func (Fn.func 35) #[] #[.pointer (some ⟨gs, 0, none⟩)]] w (UOk w g b o cap n p xs k s nm ats sg cl) :=
  (until35_any g b o cap n ⟨gs, 0, none⟩ p xs k s nm ats sg cl w hp.c hp.y hp.n (fun W hW c hc => by
    have := one_any l hl gs W (hs.on hW) c hc
    rw [hlp] at this
    exact this)).mono fun _ _ h => h.uok hp
theorem untN_any {g b o cap n : Nat} {xs : List Nat} {k s nm ats sg cl : Value} (w : World) (hp : PS w g b o cap xs n k s nm ats sg cl) (l : List Nat) (hl : ∀ x ∈ l, x < 256) (p : Nat → Bool) (hlp : ∀ c, (!l.contains c) = p c) (gs : Nat) (hs : Cells w gs 9 #[strV l]) :
    Calls Try.prog 39 #[.pointer (some ⟨g, 0, none⟩), .func (Fn.func 52) #[] #[.pointer (some ⟨gs, 0, none⟩)]] w (UOk w g b o cap n p xs k s nm ats sg cl) :=
  (until52_any g b o cap n ⟨gs, 0, none⟩ p xs k s nm ats sg cl w hp.c hp.y hp.n (fun W hW c hc => by
    have := none_any l hl gs W (hs.on hW) c hc
    rw [hlp] at this
    exact this)).mono fun _ _ h => h.uok hp
theorem untQ_any {g b o cap n : Nat} {xs : List Nat} {k s nm ats sg cl : Value} (w : World) (hp : PS w g b o cap xs n k s nm ats sg cl) (q : Nat) (gs : Nat) (hs : Cells w gs 5 #[.int .u8 (q : Int)]) :
    Calls Try.prog 39 #[.pointer (some ⟨g, 0, none⟩), .func (Fn.func 53) #[] #[.pointer (some ⟨gs, 0, none⟩)]] w (UOk w g b o cap n (eQ q) xs k s nm ats sg cl) :=
  (until53_any g b o cap n ⟨gs, 0, none⟩ (eQ q) xs k s nm ats sg cl w hp.c hp.y hp.n (fun W hW c _ => quo_any q gs W (hs.on hW) c)).mono fun _ _ h => h.uok hp
/-- What take answers. -/
theorem takeP_any {g b o cap n : Nat} {xs : List Nat} {k s nm ats sg cl : Value} (w : World) (hp : PS w g b o cap xs n k s nm ats sg cl) (c : Nat) :
    Calls Try.prog 41 #[.pointer (some ⟨g, 0, none⟩), .int .u8 (c : Int)] w fun e w' => e = .returned (.bool (tkB xs n c)) ∧ Fz (· = g) w w' ∧ PS w' g b o cap xs (tkN xs n c) k s nm ats sg cl :=
  (take_any g b o cap n c xs k s nm ats sg cl w hp.c hp.y hp.n).mono fun e w' ⟨h1, h2, h3⟩ => ⟨h1, h2, h3, fzy hp.y h2 hp.c.lt, by
    unfold tkN
    split
    · rename_i h
      have : xs[n]? = some c := by simpa [tkB] using h
      exact (List.getElem?_eq_some_iff.1 this).1
    · exact hp.n⟩
/-- The function that oneOf makes. -/
def MkOk (w : World) (F : Nat) (s : ByteArray) (e : Ending) (w' : World) : Prop := ∃ gs, e = .returned (.func (Fn.func F) #[] #[.pointer (some ⟨gs, 0, none⟩)]) ∧ Cells w' gs 9 #[.string s] ∧ Below w.heap.size w w'
theorem mkO_any (s : ByteArray) (w : World) : Calls Try.prog 22 #[.string s] w (MkOk w 35 s) := by
  have := mk_one (nats s.data.toList) w
  unfold strV at this
  rw [u8s_nats] at this
  have e : (⟨s.data.toList.toArray⟩ : ByteArray) = s := by simp
  rw [e] at this
  exact this.mono fun e w' ⟨h1, h2⟩ => ⟨_, h1, by rw [h2]; exact cells_new _ _ _, by rw [h2]; exact below_new _ _⟩
theorem mkN_any (s : ByteArray) (w : World) : Calls Try.prog 40 #[.string s] w (MkOk w 52 s) := by
  have := mk_none (nats s.data.toList) w
  unfold strV at this
  rw [u8s_nats] at this
  have e : (⟨s.data.toList.toArray⟩ : ByteArray) = s := by simp
  rw [e] at this
  exact this.mono fun e w' ⟨h1, h2⟩ => ⟨_, h1, by rw [h2]; exact cells_new _ _ _, by rw [h2]; exact below_new _ _⟩
theorem BY.win {w : World} {B : Nat} {xs : List Nat} {b o cap : Nat} (h : BY w B xs (some ⟨b, o, none⟩) cap) (l k : Nat) (hl : l ≤ k) (hk : k ≤ xs.length) : BY w B ((xs.take k).drop l) (some ⟨b, o + l, none⟩) (cap - l) :=
  ⟨(by have hh := h.l; simp; omega), (by have hh := h.m; omega), fun e => (by cases e), fun x hx => h.i x (List.mem_of_mem_take (List.mem_of_mem_drop hx)), fun hne => by
    obtain ⟨b', o', e, hlt, hr⟩ := h.r (by rintro rfl; simp at hne)
    obtain ⟨rfl, rfl⟩ : b = b' ∧ o = o' := by simpa using e
    exact ⟨b, o + l, rfl, hlt, fun i x hx => by
      rw [List.getElem?_drop, List.getElem?_take] at hx
      split at hx
      · rw [Nat.add_assoc]
        exact hr _ x hx
      · cases hx⟩⟩
theorem slice_win (b o len cap l h : Nat) (hlh : l ≤ h) (hh : h ≤ cap) (hc : l < cap) (W : World) :
    (Instr.slice 22 (.slice (some ⟨b, o, none⟩) len cap) (some (.int .i64 (l : Int))) (some (.int .i64 (h : Int))) none).run Try.prog W = .ok (.slice (some ⟨b, o + l, none⟩) (h - l) (cap - l)) W := by
  have ht : Try.prog.underlying 22 = some (.slice 5) := Try.underlying22
  have ht' : Try.prog.underlying 22 = some (.slice (Try.prog.elem 22)) := by simp [Program.elem, ht]
  have he : Try.prog.elem 22 = 5 := by simp [Program.elem, ht]
  have hz : ∀ w, (Go.sizeOf 5).run Try.prog w = .ok 1 w := fun w => by kernel_rfl
  rw [run_slice_lh W 22 _ _ _ ht' .i64 .i64 _ _ (by omega) (by omega) (by omega), he, hz]
  have hne : ¬ cap = l := by omega
  by_cases h0 : l = 0
  · subst h0
    simp [Result.andThen, sliced, Addr.add, hne]
  · simp [Result.andThen, sliced, Addr.add, hne, h0]
/-- The name that begins at m, read on from n. -/
def nameL (p : Nat → Bool) (xs : List Nat) (m n : Nat) : List Nat := lowL ((xs.take (n + rnN p xs n)).drop m)
end Go.Proofs.Ytplnkmojkdbbnaa
