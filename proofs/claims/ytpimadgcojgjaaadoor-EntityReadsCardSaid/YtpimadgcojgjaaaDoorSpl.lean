/-
  Contract: bytes.Split at one byte ';': the pieces, as slices of bytes.
-/
import Derived.Test.YtpimadgcojgjaaaDoorLay
import Derived.Test.YtpimadgcojgjaaaDoorRnb
namespace Go.Proofs.YtpimadgcojgjaaaDoor
open Go.RowKit Go.Shelf Go.Lib Go.Maps

/-- internal/bytealg.MaxLen holds some number. -/
def MX (w : World) : Prop := ∃ m : Int, w.cell? ⟨1, 0, none⟩ = some (.int .i64 m)
theorem MX.on {w w' : World} (h : MX w) (hb : Below w.heap.size w w') : MX w' := by
  obtain ⟨m, h⟩ := h
  exact ⟨m, (hb.cell (p := ⟨1, 0, none⟩) (cell_lt h)).trans h⟩
theorem splitV_cap (sep : List UInt8) : ∀ (k : Nat) (a : Addr) (cap : Nat) (l : List UInt8), l.length ≤ cap → ∀ v ∈ splitV sep 0 k a cap l, ∃ a' len cp, v = .slice (some a') len cp ∧ cp ≤ cap
  | 0, a, cap, l, _, v, hv => by
    simp [splitV] at hv
    exact ⟨a, _, cap, hv, Nat.le_refl _⟩
  | k + 1, a, cap, l, hl, v, hv => by
    unfold splitV at hv
    split at hv
    · simp at hv
      exact ⟨a, _, cap, hv, Nat.le_refl _⟩
    · rename_i hm
      have hne : index l sep ≠ -1 := fun e => hm (beq_iff_eq.2 e)
      have hge := index_ge l sep
      have hroom := index_room l sep (by omega)
      rcases List.mem_cons.1 hv with rfl | hv
      · exact ⟨a, _, _, rfl, by omega⟩
      · obtain ⟨a', len, cp, e, h⟩ := splitV_cap sep k _ _ _ (by rw [List.length_drop]; omega) v hv
        exact ⟨a', len, cp, e, by omega⟩
theorem bytesOf_natI (l : List Nat) : Lib.bytesOf (natI l) = u8s l := by simp [Lib.bytesOf, natI, u8s]
theorem countFrom_le : ∀ (f : Nat) (l : List UInt8), countFrom [59] f l ≤ l.length
  | 0, _ => Nat.zero_le _
  | f + 1, l => by
    unfold countFrom
    split
    · exact Nat.zero_le _
    · rename_i hm
      have hne : index l [59] ≠ -1 := fun e => hm (beq_iff_eq.2 e)
      have hge := index_ge l [59]
      have hroom := index_room l [59] (by omega)
      have := countFrom_le f (l.drop ((index l [59]).toNat + [59].length))
      rw [List.length_drop] at this
      simp only [List.length_cons, List.length_nil] at *
      omega
/-- Pieces in memory. -/
structure PsAt (w : World) (g : Nat) (PS : List (List Nat)) : Prop where
  lt : g < w.heap.size
  p : ∀ (j : Nat) (p : List Nat), PS[j]? = some p → ∃ A cp, w.cell? ⟨g, j, none⟩ = some (.slice A p.length cp) ∧ BY w w.heap.size p A cp
theorem PsAt.on {w w' : World} {g : Nat} {PS : List (List Nat)} (h : PsAt w g PS) (hb : Below w.heap.size w w') : PsAt w' g PS :=
  ⟨Nat.lt_of_lt_of_le h.lt hb.size, fun j p hp => by
    obtain ⟨A, cp, h1, h2⟩ := h.p j p hp
    exact ⟨A, cp, (hb.cell (p := ⟨g, j, none⟩) h.lt).trans h1, h2.on hb⟩⟩
def SplitOk (w : World) (M : List Nat) (r : Ending) (w' : World) : Prop := ∃ (PS : List (List Nat)) (g : Nat), r = .returned (.slice (some ⟨g, 0, none⟩) PS.length PS.length) ∧ numsP PS = refN [] 0 0 M ∧ PS.length ≤ M.length + 1 ∧ PsAt w' g PS ∧ Below w.heap.size w w'
theorem getD_of {l : List Int} {i : Nat} {x : Int} (h : l[i]? = some x) : l.getD i 0 = x := by simp [List.getD_eq_getElem?_getD, h]
theorem ofNat_toNat' (l : List Nat) (hl : ∀ x ∈ l, x < 256) (i : Nat) (x : UInt8) (h : (u8s l)[i]? = some x) : l[i]? = some x.toNat := by
  unfold u8s at h
  rw [List.getElem?_map] at h
  cases e : l[i]? with
  | none => rw [e] at h; simp at h
  | some y =>
    rw [e] at h
    simp at h
    subst h
    have := hl y (List.mem_of_getElem? e)
    simp
    omega
theorem split_any (M : List Nat) (b o cap : Nat) (w : World) (hB : BY w w.heap.size M (some ⟨b, o, none⟩) cap) (hlen : M.length ≤ 100000) (hbl : b < w.heap.size) (b2 : Nat) (hsep : w.cell? ⟨b2, 0, none⟩ = some (.int .u8 59)) (hm : MX w) :
    Calls Tryd.prog 46 #[.slice (some ⟨b, o, none⟩) M.length cap, .slice (some ⟨b2, 0, none⟩) 1 1] w (SplitOk w M) := by
  obtain ⟨m, hm⟩ := hm
  have hcap := hB.m
  unfold maxLen at hcap
  have hcell : ∀ (i x : Nat), M[i]? = some x → w.cell? ⟨b, o + i, none⟩ = some (.int .u8 (x : Int)) := fun i x hx => by
    obtain ⟨b', o', e, _, h⟩ := hB.at hx
    obtain ⟨rfl, rfl⟩ : b = b' ∧ o = o' := by simpa using e
    exact h
  have hadd : ∀ i, (Addr.mk b o none).add i = ⟨b, o + i, none⟩ := fun i => by
    unfold Addr.add
    by_cases h : i = 0 <;> simp [h]
  have C := Tryd.bytes_Split ⟨b, o, none⟩ ⟨b2, 0, none⟩ M.length cap 1 1 (natI M) [59] m w (natI_len M) rfl
    (fun x hx => by
      simp [natI] at hx
      obtain ⟨y, hy, rfl⟩ := hx
      have := hB.i y hy
      omega) (fun y hy => by simp at hy; omega)
    (fun i hi => by
      obtain ⟨x, hx⟩ := at_lt hi
      rw [hadd, hcell i x hx, getD_of (x := (x : Int)) (by simp [natI, hx])])
    (fun i hi => by
      obtain rfl : i = 0 := by omega
      rw [add_none]; exact hsep)
    hB.l (by omega) (by decide) (by omega) (by decide) hm
  refine C.mono ?_
  rintro e w' ⟨rfl, q, rfl⟩
  rw [bytesOf_natI, show Lib.bytesOf [59] = [59] from rfl]
  obtain ⟨cnt, hcnt⟩ : ∃ cnt, Lib.count (u8s M) [59] = cnt := ⟨_, rfl⟩
  have hnum := nums_cut (M.length + 1) M (by omega) hB.i
  have hc2 : countFrom [59] (M.length + 1) (u8s M) = cnt := by rw [← hcnt, Lib.count, u8s_len]
  rw [hc2] at hnum
  rw [hcnt]
  have hle : cnt ≤ M.length := by rw [← hc2, ← u8s_len M]; exact countFrom_le _ _
  have hu : (u8s M).length ≤ cap := by rw [u8s_len]; exact hB.l
  have hsp := splitV_spec [59] 0 (by decide) (by decide) cnt ⟨b, o, none⟩ cap (u8s M) hu
  have hcp := splitV_cap [59] cnt ⟨b, o, none⟩ cap (u8s M) hu
  have hvl := splitV_length [59] 0 cnt ⟨b, o, none⟩ cap (u8s M)
  have hlen1 : (splitK [59] 0 cnt (u8s M)).length = cnt + 1 := by
    have hx := Lib.splitB_all ⟨#[59]⟩ (by decide) 0 _ ⟨(u8s M).toArray⟩ rfl
    have hd := congrArg List.length (Lib.splitB_data ⟨#[59]⟩ 0 (Lib.countB ⟨(u8s M).toArray⟩ ⟨#[59]⟩) ⟨(u8s M).toArray⟩)
    rw [List.length_map, hx] at hd
    have hcb : Lib.countB ⟨(u8s M).toArray⟩ ⟨#[59]⟩ = cnt := hcnt
    rw [hcb] at hd
    exact hd.symm
  generalize splitV [59] 0 cnt ⟨b, o, none⟩ cap (u8s M) = VS at *
  obtain ⟨PS, hPS⟩ : ∃ PS, (splitK [59] 0 cnt (u8s M)).map nats = PS := ⟨_, rfl⟩
  have hpl : PS.length = cnt + 1 := by rw [← hPS, List.length_map, hlen1]
  rw [hPS] at hnum
  have hbel : Below w.heap.size w ((w.alloc (.cells VS.toArray 22)).drewN q) := below_drewN (below_new w _) q
  refine ⟨PS, w.heap.size, by rw [hpl], hnum, by omega, ⟨?_, ?_⟩, hbel⟩
  · show w.heap.size < ((w.alloc (.cells VS.toArray 22)).drewN q).heap.size
    simp
  · intro j p hp
    have hj : j < VS.length := by
      have := (List.getElem?_eq_some_iff.1 hp).1
      rw [hvl, hlen1]
      omega
    obtain ⟨v, hv⟩ := at_lt hj
    obtain ⟨a', off, len, cp, rfl, h1, h2, h3, h4⟩ := hsp j v hv
    obtain ⟨a2, len2, cp2, e2, h5⟩ := hcp _ (List.mem_of_getElem? hv)
    obtain ⟨rfl, rfl, rfl⟩ : a' = a2 ∧ len = len2 ∧ cp = cp2 := by simpa using e2
    have hpp : p = nats (((u8s M).drop off).take len) := by
      rw [← hPS, List.getElem?_map, h3] at hp
      simpa using hp.symm
    rw [u8s_len] at h2
    have hplen : p.length = len := by
      rw [hpp, nats, List.length_map, List.length_take, List.length_drop, u8s_len]
      omega
    have hpi : ∀ i x, p[i]? = some x → M[off + i]? = some x := fun i x hx => by
      rw [hpp, nats, List.getElem?_map] at hx
      cases e : (((u8s M).drop off).take len)[i]? with
      | none => rw [e] at hx; simp at hx
      | some y =>
        rw [e] at hx
        simp at hx
        subst hx
        rw [List.getElem?_take] at e
        split at e
        · rw [List.getElem?_drop] at e
          exact ofNat_toNat' M hB.i _ _ e
        · cases e
    refine ⟨some a', cp, ?_, ?_⟩
    · rw [hplen]
      have hc : (w.alloc (.cells VS.toArray 22)).cell? ⟨w.heap.size, j, none⟩ = some (.slice (some a') len cp) := by
        rw [World.cell?_alloc_new]
        simp [hv]
      exact hc
    · refine ⟨by omega, by have := hB.m; omega, fun e => (by cases e), fun x hx => ?_, fun hne => ?_⟩
      · obtain ⟨i, hi, hx⟩ := List.getElem_of_mem hx
        exact hB.lt (hpi i x (by rw [List.getElem?_eq_getElem hi, hx]))
      · have hl0 : 0 < len := by rw [← hplen]; exact List.length_pos_iff.2 hne
        have ha := h4 0 hl0
        rw [add_none, hadd, Nat.add_zero] at ha
        refine ⟨b, o + off, by rw [ha], ?_, fun i x hx => ?_⟩
        · show b < ((w.alloc (.cells VS.toArray 22)).drewN q).heap.size
          simp
          omega
        · have := hcell _ x (hpi i x hx)
          rw [Nat.add_assoc]
          exact (hbel.cell (p := ⟨b, o + (off + i), none⟩) hbl).trans this
end Go.Proofs.YtpimadgcojgjaaaDoor
