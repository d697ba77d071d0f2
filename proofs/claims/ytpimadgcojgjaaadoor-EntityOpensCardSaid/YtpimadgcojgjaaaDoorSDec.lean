/-
  Contracts: unicode/utf8.DecodeRune at bytes that are there; scalar.decode.
-/
import Derived.Test.YtpimadgcojgjaaaDoorSBrk
namespace Go.Proofs.YtpimadgcojgjaaaDoor.S
open Go.RowKit Go.Shelf
open Go.Lib

/-- The byte at a place; 0 behind the end. -/
def bt (n : Nat) (f : Nat → Nat) (j : Nat) : Nat := if j < n then f j else 0
/-- What is read of n bytes. -/
def pc (n : Nat) (f : Nat → Nat) : Nat × Nat × Bool := M1.pieceB n (bt n f 0) (bt n f 1) (bt n f 2) (bt n f 3)
theorem pc_size (n : Nat) (f : Nat → Nat) (hn : 1 ≤ n) : 1 ≤ (pc n f).2.1 ∧ (pc n f).2.1 ≤ n ∧ (pc n f).2.1 ≤ 4 := M1.pieceB_size _ _ _ _ _ hn
theorem Bs.norm {w : World} {b off n : Nat} {f : Nat → Nat} (h : Bs w b off n f) : Bs w b off n (bt n f) := fun j hj => by
  unfold bt
  rw [if_pos hj]
  exact h j hj
theorem bt_lt {w : World} {b off n : Nat} {f : Nat → Nat} (h : Bs w b off n f) (j : Nat) : bt n f j < 256 := by
  unfold bt
  split
  · exact (h j (by assumption)).2
  · omega

theorem bytesOf (n : Nat) (f : Nat → Nat) (hf : ∀ j, j < n → f j < 256) : ∃ s : ByteArray, s.size = n ∧ ∀ j, (s.get! j).toNat = bt n f j := by
  refine ⟨⟨((List.range n).map fun j => (f j).toUInt8).toArray⟩, by simp [ByteArray.size], fun j => ?_⟩
  unfold bt
  by_cases h : j < n
  · rw [if_pos h]
    have := hf j h
    simp [ByteArray.get!, h]
    omega
  · rw [if_neg h]
    simp [ByteArray.get!, h]
    rfl

/-- unicode/utf8.DecodeRune. -/
theorem dr_any (b off n cap : Nat) (f : Nat → Nat) (w : World) (hT : Tabs w) (hB : Bs w b off n f) (hn : 1 ≤ n) :
    Calls Tryd.prog 84 #[.slice (some ⟨b, off, none⟩) n cap] w fun e w' => e = .returned (.tuple #[.int .i32 (decodeN n (bt n f 0) (bt n f 1) (bt n f 2) (bt n f 3)).1, .int .i64 (decodeN n (bt n f 0) (bt n f 1) (bt n f 2) (bt n f 3)).2]) ∧ Below w.heap.size w w' := by
  obtain ⟨s, hs, hg⟩ := bytesOf n f (fun j hj => (hB j hj).2)
  have e : decodeGo s = decodeN n (bt n f 0) (bt n f 1) (bt n f 2) (bt n f 3) := by
    unfold decodeGo
    rw [if_neg (by omega), decode_at, hs, hg, hg, hg, hg]
    rfl
  have c := Any7.utf8_DecodeRune Tryd.lays32 s b off cap w hT.1 (fun j hj => by
    have := (hB.norm j (by omega)).1
    rw [← hg j] at this
    exact this)
  rw [e, hs] at c
  exact c

theorem Bs.alloc {w : World} {b off n : Nat} {f : Nat → Nat} (h : Bs w b off n f) (hn : 0 < n) (o : Obj) : Bs (w.alloc o) b off n f :=
  h.below (B := w.heap.size) ((Below.refl _ w).alloc (Nat.le_refl _) o) (h.lt hn)
theorem Tabs.alloc {w : World} (h : Tabs w) (o : Obj) : Tabs (w.alloc o) := h.below ((Below.refl _ w).alloc (Nat.le_refl _) o) h.2
theorem Tryd.cells101 : Tryd.prog.cellsOf 101 = 4 := by kernel_rfl

set_option maxHeartbeats 1000000 in
/-- scalar.decode: the scalar that is read at a place. -/
theorem dec_any (b off n cap i : Nat) (f : Nat → Nat) (w : World) (hT : Tabs w) (hB : Bs w b off n f) (hi : i < n) (hc : n ≤ cap) (hm : cap ≤ maxLen) :
    Calls Tryd.prog 72 #[.slice (some ⟨b, off, none⟩) n cap, .int .i64 i] w fun e w' =>
      e = .returned (.agg #[.int .i32 (pc (n - i) (fun j => f (i + j))).1, .int .i64 i, .int .i64 (pc (n - i) (fun j => f (i + j))).2.1, .bool (pc (n - i) (fun j => f (i + j))).2.2]) ∧ Below w.heap.size w w' := by
  unfold maxLen at hm
  have hlt := hB.lt (by omega)
  have hi0 : (0 : Int) ≤ (i : Int) := by omega
  have hi1 : (i : Int) < (n : Int) := by omega
  have hc1 : (n : Int) ≤ (cap : Int) := by omega
  have hB' := hB.drop i
  have hD := fun W (h1 : Tabs W) (h2 : Bs W b (off + i) (n - i) (fun j => f (i + j))) => dr_any b (off + i) (n - i) (cap - i) _ W h1 h2 (by omega)
  have hK := fun W (h1 : Tabs W) (h2 : Bs W b (off + i) (n - i) (bt (n - i) fun j => f (i + j))) => brk_any b (off + i) (n - i) (cap - i) _ W h1 h2 (by omega) (by omega) (by unfold maxLen; omega)
  have hl := bt_lt hB'
  generalize hg : (fun j => f (i + j)) = g at *
  have HT := Lib.hid hT
  have HB := Lib.hid hB'
  cases hw : (pc (n - i) g).2.2
  · obtain ⟨e1, e2⟩ := M1.pieceB_broken (n - i) _ _ _ _ (by omega) (hl 0) (hl 1) (hl 2) (hl 3) hw
    have hk := fun k => M1.brk_size (n - i) _ _ _ _ k (by omega) hw
    rw [e1] at hD
    have e2' : (pc (n - i) g).1 = 65533 := e2
    have hk' : ∀ k, M1.Brk (n - i) (bt (n - i) g 0) (bt (n - i) g 1) (bt (n - i) g 2) k → k = (pc (n - i) g).2.1 := hk
    rw [e2']
    clear e1 e2 e2' hk hw hB hB' hT hl hg
    have HD := Lib.hid hD
    have HK := Lib.hid hK
    have HQ := Lib.hid hk'
    clear hD hK hk'
    go_enter Tryd.func72, Tryd.ntmps72
    go_wp2_with fail
    refine (HD.out _ (HT.out.alloc _) (HB.out.alloc (by omega) _)).mono ?_
    rintro e w1 ⟨rfl, hb1⟩
    have hs1 := hb1.size
    rw [World.size_alloc] at hs1 hb1
    have q0 : w1.cell? ⟨w.heap.size, 0, none⟩ = some (.int .i32 0) := (hb1.cell (p := ⟨w.heap.size, 0, none⟩) (by simp)).trans (by simp)
    have q1 : w1.cell? ⟨w.heap.size, 1, none⟩ = some (.int .i64 0) := (hb1.cell (p := ⟨w.heap.size, 1, none⟩) (by simp)).trans (by simp)
    have q2 : w1.cell? ⟨w.heap.size, 2, none⟩ = some (.int .i64 0) := (hb1.cell (p := ⟨w.heap.size, 2, none⟩) (by simp)).trans (by simp)
    have q3 : w1.cell? ⟨w.heap.size, 3, none⟩ = some (.bool false) := (hb1.cell (p := ⟨w.heap.size, 3, none⟩) (by simp)).trans (by simp)
    have hbw : Below w.heap.size w w1 := ((Below.refl _ w).alloc (Nat.le_refl _) _).trans (hb1.mono (by omega))
    go_wp2_with fail
    refine (HK.out _ (HT.out.below hbw HT.out.2) (HB.out.below hbw hlt).norm).mono ?_
    rintro e w2 ⟨k, rfl, hkk, hb2⟩
    have hkq := HQ.out k hkk
    clear hkk
    subst hkq
    have hs2 := hb2.size
    have r0 := (hb2.cell (p := ⟨w.heap.size, 0, none⟩) (by show w.heap.size < _; omega)).trans q0
    have r1 := (hb2.cell (p := ⟨w.heap.size, 1, none⟩) (by show w.heap.size < _; omega)).trans q1
    have r2 := (hb2.cell (p := ⟨w.heap.size, 2, none⟩) (by show w.heap.size < _; omega)).trans q2
    have r3 := (hb2.cell (p := ⟨w.heap.size, 3, none⟩) (by show w.heap.size < _; omega)).trans q3
    have fz : ∀ j, w2.frozen? ⟨w.heap.size, j, none⟩ = false := fun j => (hb2.frozen (p := ⟨w.heap.size, j, none⟩) (by show w.heap.size < _; omega)).trans ((hb1.frozen (p := ⟨w.heap.size, j, none⟩) (by simp)).trans (by simp))
    have f0 := fz 0; have f1 := fz 1; have f2 := fz 2; have f3 := fz 3
    have hbz := hbw.trans (hb2.mono (by omega))
    clear q0 q1 q2 q3 fz
    go_wp2
    refine bodyPost_ret (v := .agg #[.int .i32 65533, .int .i64 i, .int .i64 (pc (n - i) g).2.1, .bool false]) ?_ rfl ⟨rfl, ?_⟩
    · simp [results, Tryd.results72, go_sem, r0, r1, r2, r3]
    · exact (((hbz.setCell (p := ⟨_, 0, none⟩) (Nat.le_refl _) _).setCell (p := ⟨_, 1, none⟩) (Nat.le_refl _) _).setCell (p := ⟨_, 2, none⟩) (Nat.le_refl _) _).setCell (p := ⟨_, 3, none⟩) (Nat.le_refl _) _
  · obtain ⟨e1, e2⟩ := M1.pieceB_whole (n - i) _ _ _ _ (by omega) (hl 1) (hl 2) (hl 3) hw
    have e1' : decodeN (n - i) (bt (n - i) g 0) (bt (n - i) g 1) (bt (n - i) g 2) (bt (n - i) g 3) = ((pc (n - i) g).1, (pc (n - i) g).2.1) := e1
    have e2' : (pc (n - i) g).1 ≠ 65533 ∨ (pc (n - i) g).2.1 ≠ 1 := e2
    rw [e1'] at hD
    clear e1 e1' e2 hK hw hB hB' hT hl hg
    generalize (pc (n - i) g).1 = R at *
    generalize (pc (n - i) g).2.1 = S at *
    have HD := Lib.hid hD
    clear hD
    by_cases c : R = 65533
    · have c1 : ((R : Int) == 65533) = true := by rw [beq_iff_eq]; omega
      have c2 : ((S : Int) == 1) = false := by rw [beq_eq_false_iff_ne]; omega
      clear e2' c1
      subst c
      have c2' : ((65533 : Int) == 65533) = true := rfl
      go_enter Tryd.func72, Tryd.ntmps72
      go_wp2_with fail
      refine (HD.out _ (HT.out.alloc _) (HB.out.alloc (by omega) _)).mono ?_
      rintro e w1 ⟨rfl, hb1⟩
      have hs1 := hb1.size
      rw [World.size_alloc] at hs1 hb1
      have q0 : w1.cell? ⟨w.heap.size, 0, none⟩ = some (.int .i32 0) := (hb1.cell (p := ⟨w.heap.size, 0, none⟩) (by simp)).trans (by simp)
      have q1 : w1.cell? ⟨w.heap.size, 1, none⟩ = some (.int .i64 0) := (hb1.cell (p := ⟨w.heap.size, 1, none⟩) (by simp)).trans (by simp)
      have q2 : w1.cell? ⟨w.heap.size, 2, none⟩ = some (.int .i64 0) := (hb1.cell (p := ⟨w.heap.size, 2, none⟩) (by simp)).trans (by simp)
      have q3 : w1.cell? ⟨w.heap.size, 3, none⟩ = some (.bool false) := (hb1.cell (p := ⟨w.heap.size, 3, none⟩) (by simp)).trans (by simp)
      have fz : ∀ j, w1.frozen? ⟨w.heap.size, j, none⟩ = false := fun j => (hb1.frozen (p := ⟨w.heap.size, j, none⟩) (by simp)).trans (by simp)
      have f0 := fz 0; have f1 := fz 1; have f2 := fz 2; have f3 := fz 3
      have hbw : Below w.heap.size w w1 := ((Below.refl _ w).alloc (Nat.le_refl _) _).trans (hb1.mono (by omega))
      clear fz
      go_wp2
      refine bodyPost_ret (v := .agg #[.int .i32 65533, .int .i64 i, .int .i64 S, .bool true]) ?_ rfl ⟨rfl, ?_⟩
      · simp [results, Tryd.results72, go_sem, q0, q1, q2, q3]
      · exact (((hbw.setCell (p := ⟨_, 0, none⟩) (Nat.le_refl _) _).setCell (p := ⟨_, 1, none⟩) (Nat.le_refl _) _).setCell (p := ⟨_, 2, none⟩) (Nat.le_refl _) _).setCell (p := ⟨_, 3, none⟩) (Nat.le_refl _) _
    · have c1 : ((R : Int) == 65533) = false := by rw [beq_eq_false_iff_ne]; omega
      clear c e2'
      go_enter Tryd.func72, Tryd.ntmps72
      go_wp2_with fail
      refine (HD.out _ (HT.out.alloc _) (HB.out.alloc (by omega) _)).mono ?_
      rintro e w1 ⟨rfl, hb1⟩
      have hs1 := hb1.size
      rw [World.size_alloc] at hs1 hb1
      have q0 : w1.cell? ⟨w.heap.size, 0, none⟩ = some (.int .i32 0) := (hb1.cell (p := ⟨w.heap.size, 0, none⟩) (by simp)).trans (by simp)
      have q1 : w1.cell? ⟨w.heap.size, 1, none⟩ = some (.int .i64 0) := (hb1.cell (p := ⟨w.heap.size, 1, none⟩) (by simp)).trans (by simp)
      have q2 : w1.cell? ⟨w.heap.size, 2, none⟩ = some (.int .i64 0) := (hb1.cell (p := ⟨w.heap.size, 2, none⟩) (by simp)).trans (by simp)
      have q3 : w1.cell? ⟨w.heap.size, 3, none⟩ = some (.bool false) := (hb1.cell (p := ⟨w.heap.size, 3, none⟩) (by simp)).trans (by simp)
      have fz : ∀ j, w1.frozen? ⟨w.heap.size, j, none⟩ = false := fun j => (hb1.frozen (p := ⟨w.heap.size, j, none⟩) (by simp)).trans (by simp)
      have f0 := fz 0; have f1 := fz 1; have f2 := fz 2; have f3 := fz 3
      have hbw : Below w.heap.size w w1 := ((Below.refl _ w).alloc (Nat.le_refl _) _).trans (hb1.mono (by omega))
      clear fz
      go_wp2
      refine bodyPost_ret (v := .agg #[.int .i32 R, .int .i64 i, .int .i64 S, .bool true]) ?_ rfl ⟨rfl, ?_⟩
      · simp [results, Tryd.results72, go_sem, q0, q1, q2, q3]
      · exact (((hbw.setCell (p := ⟨_, 0, none⟩) (Nat.le_refl _) _).setCell (p := ⟨_, 1, none⟩) (Nat.le_refl _) _).setCell (p := ⟨_, 2, none⟩) (Nat.le_refl _) _).setCell (p := ⟨_, 3, none⟩) (Nat.le_refl _) _
end Go.Proofs.YtpimadgcojgjaaaDoor.S
