/-
  TokenParts HOLDS: the tokens of both parts: for every input, in whatever memory in which the listed tables read as the library lays them.
  TokenParts' walk.
  Tokens from a place on.
-/
import Derived.Deep.RegionLaw
import Derived.Lay
import Derived.LaidOnce
import Derived.LaidMore
import Derived.ChangeOld
import Derived.ShutString
import Derived.SevenTiedAt
import Derived.Test.YtnedjafpjbfncaaGreatDoorXqa
import Derived.Test.YtnedjafpjbfncaaGreatDoorXqb
import Derived.Test.YtnedjafpjbfncaaGreatDoorXqc
import Derived.Test.YtnedjafpjbfncaaGreatDoorXqd
import Derived.Test.YtnedjafpjbfncaaGreatDoorXqe
import Derived.Test.YtnedjafpjbfncaaGreatDoorXqf
import Derived.Test.YtnedjafpjbfncaaGreatDoorXqg
import Derived.Test.YtnedjafpjbfncaaGreatDoorXqh
import Derived.Test.YtnedjafpjbfncaaGreatDoorXqi
import Derived.Test.YtnedjafpjbfncaaGreatDoorXqj
import Derived.Test.YtnedjafpjbfncaaGreatDoorCards
import Derived.Test.YtnedjafpjbfncaaGreatDoorTie
namespace Go.Proofs.YtnedjafpjbfncaaGreatDoor
open Go.RowKit Go.Shelf Go.Lib Go.Maps Go.Great
attribute [local irreducible] NR ZNR FR nmE

def shT (a : Nat) (x : TK) : TK := ⟨x.kind, x.fr + a, x.to + a, x.name, x.r, x.sg⟩
theorem readE_drop (xs : List Nat) (a k : Nat) (h : a + k ≤ xs.length) : readE (xs.drop a) (k : Int) = readE xs ((a + k : Nat) : Int) := by
  unfold readE
  have e1 : (xs.drop a).drop (Int.toNat (k : Int)) = xs.drop (Int.toNat ((a + k : Nat) : Int)) := by
    rw [List.drop_drop, Int.toNat_natCast, Int.toNat_natCast]
  rw [e1, List.length_drop]
  have e2 : (xs.drop a).getD (Int.toNat (k : Int)) 0 = xs.getD (Int.toNat ((a + k : Nat) : Int)) 0 := by
    rw [List.getD_eq_getElem?_getD, List.getD_eq_getElem?_getD, List.getElem?_drop, Int.toNat_natCast, Int.toNat_natCast]
  rw [e2]
  by_cases c : a + k < xs.length
  · rw [if_neg (show ¬ ((k : Int) < 0 ∨ ((xs.length - a : Nat) : Int) ≤ (k : Int)) by omega), if_neg (show ¬ (((a + k : Nat) : Int) < 0 ∨ (xs.length : Int) ≤ ((a + k : Nat) : Int)) by omega)]
  · rw [if_pos (show (k : Int) < 0 ∨ ((xs.length - a : Nat) : Int) ≤ (k : Int) by omega), if_pos (show ((a + k : Nat) : Int) < 0 ∨ (xs.length : Int) ≤ ((a + k : Nat) : Int) by omega)]
theorem markT_drop (xs : List Nat) (a k : Nat) (h : a + k ≤ xs.length) : markT xs (a + k) = (markT (xs.drop a) k).map (shT a) := by
  unfold markT
  rw [List.drop_drop, ← readE_drop xs a k h]
  cases e : G.rdT (xs.drop (a + k)) with
  | some T => simp [shT]; omega
  | none =>
    dsimp only
    split
    · simp [shT]; omega
    · split
      · simp [shT]; omega
      · rfl
theorem scanR_sh (nm : List Nat) (a : Nat) : ∀ (l : List Nat) (k : Nat), scanR nm l (k + a) = scanR nm l k + a
  | [], k => rfl
  | c :: r, k => by
    have ih := scanR_sh nm a r (k + 1)
    rw [scanR, scanR]
    split
    · rfl
    · rw [← ih]
      congr 1
      omega
theorem isRaw_sh (a : Nat) (x : TK) : isRaw (shT a x) = isRaw x := rfl
theorem rawT_sh (xs : List Nat) (a : Nat) (x : TK) : rawT xs (shT a x) = rawT (xs.drop a) x + a := by
  unfold rawT
  rw [isRaw_sh]
  split
  · show scanR x.name (xs.drop (x.to + a)) (x.to + a) = _
    rw [scanR_sh, List.drop_drop, Nat.add_comm x.to a]
  · rfl
theorem rawTok_sh (xs : List Nat) (a : Nat) (x : TK) : rawTok xs (shT a x) = (rawTok (xs.drop a) x).map (shT a) := by
  unfold rawTok
  rw [rawT_sh]
  show (if x.to + a < rawT (xs.drop a) x + a then [(⟨7, x.to + a, rawT (xs.drop a) x + a, [], 0, false⟩ : TK)] else []) = _
  by_cases h : x.to < rawT (xs.drop a) x
  · rw [if_pos (by omega), if_pos h]
    rfl
  · rw [if_neg (by omega), if_neg h]
    rfl
theorem marksL_sh (xs : List Nat) (a : Nat) (ha : a ≤ xs.length) : ∀ (d k : Nat), (xs.drop a).length - k = d → k ≤ (xs.drop a).length → marksL xs (a + k) = (marksL (xs.drop a) k).map (shT a) := by
  intro d
  induction d using Nat.strongRecOn with
  | _ d ih =>
    intro k hd hk
    have hl : (xs.drop a).length = xs.length - a := List.length_drop
    by_cases h : k < (xs.drop a).length
    case neg => rw [marksL_end h, marksL_end (by omega)]; rfl
    case pos =>
      have hm := markT_drop xs a k (by omega)
      cases e : markT (xs.drop a) k with
      | none =>
        rw [e] at hm
        rw [marksL_none h e, marksL_none (by omega) hm]
        exact ih _ (by omega) (k + 1) rfl (by omega)
      | some t =>
        rw [e] at hm
        have h1 := mark_to (by omega) e
        have h2 := rawT_le (xs := xs.drop a) (x := t) h1.2.2.1
        rw [marksL_some h e, marksL_some (by omega) hm, rawT_sh, rawTok_sh, Nat.add_comm (rawT (xs.drop a) t) a, ih _ (by omega) (rawT (xs.drop a) t) rfl h2.2]
        simp
theorem outF_sh (a : Nat) : ∀ (l : List TK) (e : Nat), outF (e + a) (l.map (shT a)) = (outF e l).map (shT a)
  | [], _ => rfl
  | t :: r, e => by
    have ih := outF_sh a r t.to
    show txs (e + a) (t.fr + a) ++ (shT a t :: outF (t.to + a) (r.map (shT a))) = (txs e t.fr ++ (t :: outF t.to r)).map (shT a)
    rw [ih]
    unfold txs
    by_cases h : e < t.fr
    · rw [if_pos h, if_pos (by omega)]
      rfl
    · rw [if_neg h, if_neg (by omega)]
      rfl
theorem endF_sh (a : Nat) : ∀ (l : List TK) (e : Nat), endF (e + a) (l.map (shT a)) = endF e l + a
  | [], _ => rfl
  | t :: r, _ => endF_sh a r t.to
/-- The tokens from a place on. -/
def fromF (xs : List Nat) (k : Nat) : List TK := outF k (marksL xs k) ++ txs (endF k (marksL xs k)) xs.length
theorem fromF_zero (xs : List Nat) : eachL xs = fromF xs 0 := rfl
theorem fromF_sh (xs : List Nat) (a : Nat) (ha : a ≤ xs.length) : fromF xs a = (eachL (xs.drop a)).map (shT a) := by
  have hl : (xs.drop a).length = xs.length - a := List.length_drop
  have hm := marksL_sh xs a ha _ 0 rfl (Nat.zero_le _)
  unfold fromF eachL
  rw [Nat.add_zero] at hm
  rw [hm, hl, List.map_append]
  have h1 := outF_sh a (marksL (xs.drop a) 0) 0
  have h2 := endF_sh a (marksL (xs.drop a) 0) 0
  rw [Nat.zero_add] at h1 h2
  rw [h1, h2]
  congr 1
  unfold txs
  by_cases h : endF 0 (marksL (xs.drop a) 0) < xs.length - a
  · rw [if_pos h, if_pos (by omega)]
    simp [shT, txT]
    omega
  · rw [if_neg h, if_neg (by omega)]
    rfl
theorem fromF_end {xs : List Nat} {k : Nat} (h : ¬ k < xs.length) (_hk : k ≤ xs.length) : fromF xs k = [] := by
  unfold fromF
  rw [marksL_end h]
  show txs k xs.length = []
  unfold txs
  rw [if_neg h]
/-- Up to the next mark there is one text. -/
theorem fromF_text {xs : List Nat} : ∀ (d k e : Nat), xs.length - k = d → e < k → k ≤ xs.length → ∃ k', e < k' ∧ k' ≤ xs.length ∧ outF e (marksL xs k) ++ txs (endF e (marksL xs k)) xs.length = txT e k' :: fromF xs k' := by
  intro d
  induction d using Nat.strongRecOn with
  | _ d ih =>
    intro k e hd he hk
    by_cases h : k < xs.length
    case neg =>
      refine ⟨xs.length, by omega, Nat.le_refl _, ?_⟩
      rw [marksL_end h, fromF_end (by omega) (Nat.le_refl _)]
      show txs e xs.length = _
      unfold txs
      rw [if_pos (by omega)]
    case pos =>
      cases hm : markT xs k with
      | none =>
        rw [marksL_none h hm]
        exact ih _ (by omega) (k + 1) e rfl (by omega) (by omega)
      | some t =>
        have h1 := mark_to (by omega) hm
        refine ⟨k, he, hk, ?_⟩
        unfold fromF
        rw [marksL_some h hm]
        show (txs e t.fr ++ (t :: outF t.to _)) ++ txs (endF t.to _) xs.length = txT e k :: ((txs k t.fr ++ (t :: outF t.to _)) ++ txs (endF t.to _) xs.length)
        rw [h1.1]
        have e1 : txs e k = [txT e k] := by unfold txs; rw [if_pos he]
        have e2 : txs k k = [] := by unfold txs; rw [if_neg (Nat.lt_irrefl _)]
        rw [e1, e2]
        rfl
theorem fromF_step {xs : List Nat} {k : Nat} (h : k < xs.length) : ∃ x k', x.fr = k ∧ k < k' ∧ k' ≤ xs.length ∧ (fromF xs k = x :: fromF xs k' ∨ ∃ r, r.kind = 7 ∧ fromF xs k = x :: r :: fromF xs k') := by
  cases hm : markT xs k with
  | none =>
    obtain ⟨k', h1, h2, h3⟩ := fromF_text (xs := xs) _ (k + 1) k rfl (by omega) (by omega)
    refine ⟨txT k k', k', rfl, h1, h2, .inl ?_⟩
    rw [← h3]
    unfold fromF
    rw [marksL_none h hm]
  | some t =>
    have h1 := mark_to (by omega) hm
    have h2 := rawT_le (xs := xs) (x := t) h1.2.2.1
    have e2 : txs k t.fr = [] := by unfold txs; rw [h1.1, if_neg (Nat.lt_irrefl _)]
    refine ⟨t, rawT xs t, h1.1, by omega, h2.2, ?_⟩
    by_cases hr : t.to < rawT xs t
    · have e1 : rawTok xs t = [⟨7, t.to, rawT xs t, [], 0, false⟩] := by unfold rawTok; rw [if_pos hr]
      refine .inr ⟨⟨7, t.to, rawT xs t, [], 0, false⟩, rfl, ?_⟩
      have e3 : txs t.to t.to = [] := by unfold txs; rw [if_neg (Nat.lt_irrefl _)]
      unfold fromF
      rw [marksL_some h hm, e1]
      show (txs k t.fr ++ (t :: (txs t.to t.to ++ (⟨7, t.to, rawT xs t, [], 0, false⟩ :: outF (rawT xs t) (marksL xs (rawT xs t)))))) ++ txs (endF (rawT xs t) (marksL xs (rawT xs t))) xs.length = _
      rw [e2, e3]
      rfl
    · have e1 : rawTok xs t = [] := by unfold rawTok; rw [if_neg hr]
      have e4 : rawT xs t = t.to := by omega
      refine .inl ?_
      unfold fromF
      rw [marksL_some h hm, e1, e4]
      show (txs k t.fr ++ (t :: outF t.to (marksL xs t.to))) ++ txs (endF t.to (marksL xs t.to)) xs.length = _
      rw [e2]
      rfl
/-- From a token on that is no raw bytes. -/
theorem fromF_drop {xs : List Nat} : ∀ (d k : Nat), xs.length - k = d → k ≤ xs.length → ∀ (i : Nat) (x : TK), (fromF xs k)[i]? = some x → x.kind ≠ 7 → (fromF xs k).drop i = fromF xs x.fr := by
  intro d
  induction d using Nat.strongRecOn with
  | _ d ih =>
    intro k hd hk i x hx h7
    by_cases h : k < xs.length
    case neg => rw [fromF_end h hk] at hx; simp at hx
    case pos =>
      obtain ⟨y, k', y1, y2, y3, hy⟩ := fromF_step h
      have IH := ih (xs.length - k') (by omega) k' rfl y3
      cases i with
      | zero =>
        rcases hy with e | ⟨r, _, e⟩
        · rw [e] at hx
          simp at hx
          subst hx
          rw [y1]
          rfl
        · rw [e] at hx
          simp at hx
          subst hx
          rw [y1]
          rfl
      | succ i =>
        rcases hy with e | ⟨r, hr, e⟩
        · rw [e] at hx ⊢
          exact IH i x (by simpa using hx) h7
        · rw [e] at hx ⊢
          cases i with
          | zero =>
            simp at hx
            subst hx
            exact absurd hr h7
          | succ i => exact IH i x (by simpa using hx) h7
theorem parts_math {xs : List Nat} {i : Nat} {x : TK} (hx : (eachL xs)[i]? = some x) (h7 : x.kind ≠ 7) (hf : x.fr ≤ xs.length) : (eachL xs).drop i = (eachL (xs.drop x.fr)).map (shT x.fr) := by
  rw [← fromF_sh xs x.fr hf]
  exact fromF_drop (xs := xs) _ 0 rfl (Nat.zero_le _) i x hx h7
theorem parts_at {xs : List Nat} {i n : Nat} {x y : TK} (hx : (eachL xs)[i]? = some x) (h7 : x.kind ≠ 7) (hf : x.fr ≤ xs.length) (hy : (eachL (xs.drop x.fr))[n]? = some y) : (eachL xs)[i + n]? = some (shT x.fr y) := by
  rw [← List.getElem?_drop, parts_math hx h7 hf, List.getElem?_map, hy]
  rfl
theorem parts_len {xs : List Nat} {i : Nat} {x : TK} (hx : (eachL xs)[i]? = some x) (h7 : x.kind ≠ 7) (hf : x.fr ≤ xs.length) : (eachL (xs.drop x.fr)).length = (eachL xs).length - i := by
  have := congrArg List.length (parts_math hx h7 hf)
  rw [List.length_drop, List.length_map] at this
  exact this.symm
theorem tiles_at : ∀ (l : List TK) (e E i : Nat) (x : TK), tiles e l E → l[i]? = some x → x.fr < x.to ∧ x.to ≤ E
  | [], _, _, _, _, _, h => by simp at h
  | t :: r, e, E, 0, x, h, hx => by
    simp at hx
    subst hx
    have := tiles_len r t.to E h.2.2
    exact ⟨by rw [h.1]; exact h.2.1, by omega⟩
  | t :: r, e, E, i + 1, x, h, hx => tiles_at r t.to E i x h.2.2 (by simpa using hx)
end Go.Proofs.YtnedjafpjbfncaaGreatDoor

namespace Go.Proofs.YtnedjafpjbfncaaGreatDoor
open Go.RowKit Go.Shelf Go.Lib Go.Maps Go.Great
attribute [local irreducible] NR ZNR FR nmE

set_option maxHeartbeats 16000000 in
set_option maxRecDepth 100000 in
theorem partsLaw (xs : List Nat) (A : Option Addr) (cap : Nat) (kk : Nat) (hkk : kk ≤ 255) (w : World) (hx : BY w w.heap.size xs A cap) (hM : G.MX w) (hT : S.Tabs w) (hZ : P.TZ w) :
    Calls Tryz.prog 7 #[.slice A xs.length cap, .int .u8 (kk : Int)] w fun e w' => e = .returned (.bool true) ∧ Below w.heap.size w w' := by
  have AW := fun W (hb : Below w.heap.size w W) => awake_any W (hM.on hM.pos hb) (hT.below hb (by have := hT.2; omega)) (hZ.below hb)
  have CA := fun (hl : xs.length ≤ 100000) W (hb : Below w.heap.size w W) => All_any xs A cap W (hx.on hb) hl (hM.on hM.pos hb) (hT.below hb (by have := hT.2; omega))
  have CD := fun (hl : xs.length ≤ 100000) (b o : Nat) (hA : A = some ⟨b, o, none⟩) (a : Nat) (ha : a < xs.length) W (hb : Below w.heap.size w W) => by
    have h1 := hx.on hb
    rw [hA] at h1
    exact All_any (xs.drop a) (some ⟨b, o + a, none⟩) (cap - a) W (h1.drop ha) (by rw [List.length_drop]; omega) (hM.on hM.pos hb) (hT.below hb (by have := hT.2; omega))
  have hlen := hx.len
  have hcap := hx.l
  have hnil := fun h => hx.r h
  have HX := Lib.hid (And.intro AW (And.intro CA (And.intro (@CD) hnil)))
  clear AW CA CD hnil hx hM hT hZ
  obtain ⟨N, hN⟩ : ∃ N, xs.length = N := ⟨_, rfl⟩
  rw [hN] at hlen hcap ⊢
  by_cases c : 300 < N
  · have c1 : (300 : Int) < (N : Int) := by omega
    go_enter Tryz.func7, Tryz.ntmps7
    go_wp2_with fail
    refine (HX.out.1 w (Below.refl _ _)).mono ?_
    rintro e w1 ⟨rfl, hb⟩
    go_wp2_with fail
    go_ret
    exact ⟨rfl, hb⟩
  · have c1 : decide ((300 : Int) < (N : Int)) = false := by rw [decide_eq_false_iff_not]; omega
    go_enter Tryz.func7, Tryz.ntmps7
    go_wp2_with fail
    refine (HX.out.1 w (Below.refl _ _)).mono ?_
    rintro e w1 ⟨rfl, hb1⟩
    have HB1 := Lib.hid hb1
    clear hb1
    go_wp2_with fail
    have CA := HX.out.2.1 (by omega) w1 HB1.out
    rw [hN] at CA
    refine CA.mono ?_
    rintro e w2 ⟨v, rfl, ho, hb2⟩
    clear CA
    obtain ⟨A2, c2, rfl, hS⟩ := TS.of_own ho
    have b2 := HB1.out.trans (hb2.mono HB1.out.size)
    have hle := hS.le
    have hmx := hS.mx
    unfold maxLen at hmx
    have ht := eachL_tiles xs
    rw [hN] at ht
    have hel := eachL_len xs
    rw [hN] at hel
    obtain ⟨n, hn⟩ : ∃ n, (eachL xs).length = n := ⟨_, rfl⟩
    rw [hn] at hle hel ⊢
    have HB2 := Lib.hid (And.intro hS (And.intro b2 (And.intro hn ht)))
    clear ho hb2 b2 hS ht
    by_cases c0 : n = 0
    · have hN0 : N = 0 := by
        have := HB2.out.2.2.2
        rw [List.eq_nil_of_length_eq_zero (show (eachL xs).length = 0 by omega)] at this
        exact this.symm
      have HE := Lib.hid HB2.out.2.1
      clear HB2 hn
      subst c0 hN0
      go_wp2_with fail
      go_ret
      exact ⟨by simp, HE.out⟩
    · have d0 : ((n : Int) == 0) = false := by simp; omega
      obtain ⟨I, hI⟩ : ∃ I, kk % n = I := ⟨_, rfl⟩
      have hIn : I < n := by rw [← hI]; exact Nat.mod_lt _ (by omega)
      have hmod : (kk : Int) % (n : Int) = (I : Int) := by rw [← hI]; exact (Int.natCast_emod kk n).symm
      have hmt : ((kk : Int)).tmod (n : Int) = (I : Int) := by rw [Int.tmod_eq_emod_of_nonneg (by omega)]; exact hmod
      have hn0 : (n : Int) ≠ 0 := by omega
      have iI : (I : Int) < (n : Int) := by omega
      have hIl : I < (eachL xs).length := by rw [hn]; exact hIn
      obtain ⟨x, hx⟩ : ∃ x, (eachL xs)[I]? = some x := ⟨_, List.getElem?_eq_getElem hIl⟩
      obtain ⟨g, go, hA2, hgl, k0, k1, _, _, _, _⟩ := HB2.out.1.r I x hx
      subst hA2
      have hxt := tiles_at _ _ _ _ _ HB2.out.2.2.2 hx
      obtain ⟨kd, hkd⟩ : ∃ n, x.kind = n := ⟨_, rfl⟩
      obtain ⟨a, ha⟩ : ∃ n, x.fr = n := ⟨_, rfl⟩
      rw [hkd] at k0
      rw [ha] at k1 hxt
      rw [← Nat.add_assoc] at k1
      have haN : a < N := by omega
      obtain ⟨b, o, hA, _, _⟩ := HX.out.2.2.2 (by intro e; rw [e] at hN; simp at hN; omega)
      have CR := HX.out.2.2.1 (by omega) b o hA a (by omega)
      subst hA
      have hsl := slice_from b o N cap a haN hcap
      have CR2 : ∀ W, Below w.heap.size w W → Calls Tryz.prog 9 #[.slice (some ⟨b, o + a, none⟩) (N - a) (cap - a)] W fun e w' => ∃ v, e = .returned v ∧ OwnT w' W.heap.size (eachL (xs.drop a)) v ∧ Below W.heap.size W w' := fun W hb => by
        have := CR W hb
        rw [List.length_drop, hN] at this
        exact this
      have HD := Lib.hid (And.intro CR2 (And.intro hx (And.intro hkd (And.intro ha (And.intro (show x.fr ≤ xs.length by omega) hN)))))
      have HI := Lib.hid hI
      clear CR CR2 hx hkd ha hxt hI hn hN
      have KR := Lib.hid HB2.out.2.1
      by_cases c7 : kd = 7
      · have d7 : ((kd : Int) == 7) = true := by simp; omega
        clear HD HI c7
        go_wp2_with fail
        go_ret
        exact ⟨rfl, KR.out⟩
      · have d7 : ((kd : Int) == 7) = false := by simp; omega
        have H7 := Lib.hid c7
        clear c7
        by_cases cI : I = 0
        · have dI : decide ((0 : Int) < (I : Int)) = false := by rw [decide_eq_false_iff_not]; omega
          have dI2 : ¬ (0 : Int) < (I : Int) := by omega
          have dI3 : ¬ 0 < I := by omega
          clear cI
          go_wp2_with fail
          refine (HD.out.1 w2 HB2.out.2.1).mono ?_
          rintro e w3 ⟨v, rfl, ho, hb3⟩
          obtain ⟨A3, c3, rfl, hS3⟩ := TS.of_own ho
          have hx7 : x.kind ≠ 7 := by rw [HD.out.2.2.1]; exact H7.out
          have hfa := HD.out.2.2.2.1
          have hRl := parts_len HD.out.2.1 hx7 HD.out.2.2.2.2.1
          rw [hfa] at hRl
          have hat := fun {q : Nat} {y : TK} (hy : (eachL (xs.drop a))[q]? = some y) => (by
            have := parts_at (n := q) (y := y) HD.out.2.1 hx7 HD.out.2.2.2.2.1 (by rw [hfa]; exact hy)
            rw [hfa] at this
            exact this : (eachL xs)[I + q]? = some (shT a y))
          obtain ⟨r, hr⟩ : ∃ r, (eachL (xs.drop a)).length = r := ⟨_, rfl⟩
          rw [hr] at hRl ⊢
          have hle3 := hS3.le
          have hmx3 := hS3.mx
          unfold maxLen at hmx3
          rw [hr] at hle3
          have hrn : (n : Int) - (I : Int) = (r : Int) := by have := HB2.out.2.2.1; omega
          have hrN : r ≤ n := by have := HB2.out.2.2.1; omega
          have hri : I + r = n := by have := HB2.out.2.2.1; omega
          have HT := Lib.hid (And.intro hS3 (And.intro (@hat) (And.intro hr (And.intro (HB2.out.2.1.trans (hb3.mono HB2.out.2.1.size)) (And.intro (HB2.out.1.on hb3) hri)))))
          clear hS3 hat hr hb3 ho hRl hx7 hfa hri k0
          go_wp2_with fail
          go_loopw [9] (fun i wr => ∃ q : Nat, i = .int .i64 (q : Int) ∧ q ≤ r ∧ Below w3.heap.size w3 wr) (fun i _ => r - (RowKit.intOf i).toNat)
          case atStart => exact ⟨0, rfl, by omega, Below.refl _ _⟩
          case round =>
            obtain ⟨q, rfl, hq, hb⟩ := hrel
            by_cases lt : q < r
            case neg =>
              have hqe : q = r := by omega
              have i1 : ¬ (q : Int) < (r : Int) := by omega
              have HE := Lib.hid (HT.out.2.2.2.1.trans (hb.mono HT.out.2.2.2.1.size))
              clear hb hqe
              go_wp2_with fail
              go_ret
              exact ⟨rfl, HE.out⟩
            case pos =>
              have i1 : (q : Int) < (r : Int) := by omega
              have hql : q < (eachL (xs.drop a)).length := by have := HT.out.2.2.1; omega
              obtain ⟨y, hy⟩ : ∃ y, (eachL (xs.drop a))[q]? = some y := ⟨_, List.getElem?_eq_getElem hql⟩
              obtain ⟨f, fo, hA4, hfl, y0, y1, y2, y3, y4, y5⟩ := (HT.out.1.below hb).r q y hy
              obtain ⟨g3, go3, hA5, hgl3, z0, z1, z2, z3, z4, z5⟩ := (HT.out.2.2.2.2.1.below hb).r (I + q) _ (HT.out.2.1 hy)
              obtain ⟨e1, e2⟩ : g3 = g ∧ go3 = go := by simpa [eq_comm] using hA5
              rw [e1, e2] at z0 z1 z2 z3 z4 z5
              rw [e1] at hgl3
              clear e1 e2
              subst hA4
              have hgw := hb.size
              have hfw : f < wr.heap.size := by omega
              have hgw2 : g < wr.heap.size := by omega
              have iq : (I : Int) + (q : Int) < (n : Int) := by have := HT.out.2.2.2.2.2; omega
              have iq2 : ((I : Int) + (q : Int)).toNat = I + q := by omega
              replace z0 : wr.cell? ⟨g, go + (I + q) * 6, none⟩ = some (.int .i64 (y.kind : Int)) := z0
              replace z1 : wr.cell? ⟨g, go + ((I + q) * 6 + 1), none⟩ = some (.int .i64 ((y.fr : Int) + (a : Int))) := by rw [z1]; simp [shT]
              replace z2 : wr.cell? ⟨g, go + ((I + q) * 6 + 2), none⟩ = some (.int .i64 ((y.to : Int) + (a : Int))) := by rw [z2]; simp [shT]
              replace z3 : wr.cell? ⟨g, go + ((I + q) * 6 + 3), none⟩ = some (.string ⟨(G.u8s y.name).toArray⟩) := z3
              replace z4 : wr.cell? ⟨g, go + ((I + q) * 6 + 4), none⟩ = some (.int .i32 y.r) := z4
              replace z5 : wr.cell? ⟨g, go + ((I + q) * 6 + 5), none⟩ = some (.bool y.sg) := z5
              obtain ⟨SN, hSN⟩ : ∃ Sx : ByteArray, ⟨(G.u8s y.name).toArray⟩ = Sx := ⟨_, rfl⟩
              rw [hSN] at y3 z3
              have hyt := tiles_at _ _ _ _ _ (eachL_tiles (xs.drop a)) hy
              have hxl2 : (xs.drop a).length ≤ 300 := by rw [List.length_drop]; have := HD.out.2.2.2.2.2; omega
              have hyf : y.fr ≤ 300 := by omega
              have hyt2 : y.to ≤ 300 := by omega
              generalize y.kind = yk' at *
              generalize y.fr = yf at *
              generalize y.to = yt at *
              generalize y.r = yr at *
              generalize y.sg = ysg at *
              have HW := Lib.hid hb
              have y1' := y1
              rw [← Nat.add_assoc] at y1'
              have y2' := y2
              rw [← Nat.add_assoc] at y2'
              have y3' := y3
              rw [← Nat.add_assoc] at y3'
              have y4' := y4
              rw [← Nat.add_assoc] at y4'
              have y5' := y5
              rw [← Nat.add_assoc] at y5'
              have z1' := z1
              rw [← Nat.add_assoc] at z1'
              have z2' := z2
              rw [← Nat.add_assoc] at z2'
              have z3' := z3
              rw [← Nat.add_assoc] at z3'
              have z4' := z4
              rw [← Nat.add_assoc] at z4'
              have z5' := z5
              rw [← Nat.add_assoc] at z5'
              clear hSN hyt hxl2 hy hA5 hql hb hfl hgl3
              go_wp2_with fail
              go_region
              all_goals
                go_wp2_with fail
                refine ⟨⟨q + 1, by go_num, by omega, ?_⟩, by simp [RowKit.intOf]; omega⟩
                exact HW.out.trans ((((below_new wr _).trans ((below_new _ _).mono (by simp))).drew).mono HW.out.size)
        · have dI : (0 : Int) < (I : Int) := by omega
          obtain ⟨m, hm⟩ : ∃ m, I = m + 1 := ⟨I - 1, by omega⟩
          have hml : m < (eachL xs).length := by have := HB2.out.2.2.1; omega
          obtain ⟨y, hy⟩ : ∃ y, (eachL xs)[m]? = some y := ⟨_, List.getElem?_eq_getElem hml⟩
          obtain ⟨g2, go2, hA3, _, m0, _, _, m3, _, _⟩ := HB2.out.1.r m y hy
          obtain ⟨e1, e2⟩ : g2 = g ∧ go2 = go := by simpa [eq_comm] using hA3
          rw [e1, e2] at m0 m3
          clear e1 e2
          obtain ⟨yk, hyk⟩ : ∃ n, y.kind = n := ⟨_, rfl⟩
          obtain ⟨SY, hSY⟩ : ∃ Sx : ByteArray, ⟨(G.u8s y.name).toArray⟩ = Sx := ⟨_, rfl⟩
          rw [hyk] at m0
          rw [hSY, ← Nat.add_assoc] at m3
          have im : (m : Int) < (n : Int) := by omega
          have im1 : (I : Int) - 1 = (m : Int) := by omega
          clear hm hml hy hA3 hyk hSY cI
          by_cases c2 : yk = 2
          · have d2 : ((yk : Int) == 2) = true := by simp; omega
            clear c2
            obtain ⟨s1, hs1⟩ : ∃ b, (SY.toList == [115, 99, 114, 105, 112, 116]) = b := ⟨_, rfl⟩
            cases s1 with
            | true =>
              clear HD HI H7
              go_wp2_with fail
              go_ret
              exact ⟨rfl, KR.out⟩
            | false =>
              obtain ⟨s2, hs2⟩ : ∃ b, (SY.toList == [115, 116, 121, 108, 101]) = b := ⟨_, rfl⟩
              cases s2 with
              | true =>
                clear HD HI H7
                go_wp2_with fail
                go_ret
                exact ⟨rfl, KR.out⟩
              | false =>
                go_wp2_with fail
                refine (HD.out.1 w2 HB2.out.2.1).mono ?_
                rintro e w3 ⟨v, rfl, ho, hb3⟩
                obtain ⟨A3, c3, rfl, hS3⟩ := TS.of_own ho
                have hx7 : x.kind ≠ 7 := by rw [HD.out.2.2.1]; exact H7.out
                have hfa := HD.out.2.2.2.1
                have hRl := parts_len HD.out.2.1 hx7 HD.out.2.2.2.2.1
                rw [hfa] at hRl
                have hat := fun {q : Nat} {y : TK} (hy : (eachL (xs.drop a))[q]? = some y) => (by
                  have := parts_at (n := q) (y := y) HD.out.2.1 hx7 HD.out.2.2.2.2.1 (by rw [hfa]; exact hy)
                  rw [hfa] at this
                  exact this : (eachL xs)[I + q]? = some (shT a y))
                obtain ⟨r, hr⟩ : ∃ r, (eachL (xs.drop a)).length = r := ⟨_, rfl⟩
                rw [hr] at hRl ⊢
                have hle3 := hS3.le
                have hmx3 := hS3.mx
                unfold maxLen at hmx3
                rw [hr] at hle3
                have hrn : (n : Int) - (I : Int) = (r : Int) := by have := HB2.out.2.2.1; omega
                have hrN : r ≤ n := by have := HB2.out.2.2.1; omega
                have hri : I + r = n := by have := HB2.out.2.2.1; omega
                have HT := Lib.hid (And.intro hS3 (And.intro (@hat) (And.intro hr (And.intro (HB2.out.2.1.trans (hb3.mono HB2.out.2.1.size)) (And.intro (HB2.out.1.on hb3) hri)))))
                clear hS3 hat hr hb3 ho hRl hx7 hfa hri k0
                go_wp2_with fail
                go_loopw [9] (fun i wr => ∃ q : Nat, i = .int .i64 (q : Int) ∧ q ≤ r ∧ Below w3.heap.size w3 wr) (fun i _ => r - (RowKit.intOf i).toNat)
                case atStart => exact ⟨0, rfl, by omega, Below.refl _ _⟩
                case round =>
                  obtain ⟨q, rfl, hq, hb⟩ := hrel
                  by_cases lt : q < r
                  case neg =>
                    have hqe : q = r := by omega
                    have i1 : ¬ (q : Int) < (r : Int) := by omega
                    have HE := Lib.hid (HT.out.2.2.2.1.trans (hb.mono HT.out.2.2.2.1.size))
                    clear hb hqe
                    go_wp2_with fail
                    go_ret
                    exact ⟨rfl, HE.out⟩
                  case pos =>
                    have i1 : (q : Int) < (r : Int) := by omega
                    have hql : q < (eachL (xs.drop a)).length := by have := HT.out.2.2.1; omega
                    obtain ⟨y, hy⟩ : ∃ y, (eachL (xs.drop a))[q]? = some y := ⟨_, List.getElem?_eq_getElem hql⟩
                    obtain ⟨f, fo, hA4, hfl, y0, y1, y2, y3, y4, y5⟩ := (HT.out.1.below hb).r q y hy
                    obtain ⟨g3, go3, hA5, hgl3, z0, z1, z2, z3, z4, z5⟩ := (HT.out.2.2.2.2.1.below hb).r (I + q) _ (HT.out.2.1 hy)
                    obtain ⟨e1, e2⟩ : g3 = g ∧ go3 = go := by simpa [eq_comm] using hA5
                    rw [e1, e2] at z0 z1 z2 z3 z4 z5
                    rw [e1] at hgl3
                    clear e1 e2
                    subst hA4
                    have hgw := hb.size
                    have hfw : f < wr.heap.size := by omega
                    have hgw2 : g < wr.heap.size := by omega
                    have iq : (I : Int) + (q : Int) < (n : Int) := by have := HT.out.2.2.2.2.2; omega
                    have iq2 : ((I : Int) + (q : Int)).toNat = I + q := by omega
                    replace z0 : wr.cell? ⟨g, go + (I + q) * 6, none⟩ = some (.int .i64 (y.kind : Int)) := z0
                    replace z1 : wr.cell? ⟨g, go + ((I + q) * 6 + 1), none⟩ = some (.int .i64 ((y.fr : Int) + (a : Int))) := by rw [z1]; simp [shT]
                    replace z2 : wr.cell? ⟨g, go + ((I + q) * 6 + 2), none⟩ = some (.int .i64 ((y.to : Int) + (a : Int))) := by rw [z2]; simp [shT]
                    replace z3 : wr.cell? ⟨g, go + ((I + q) * 6 + 3), none⟩ = some (.string ⟨(G.u8s y.name).toArray⟩) := z3
                    replace z4 : wr.cell? ⟨g, go + ((I + q) * 6 + 4), none⟩ = some (.int .i32 y.r) := z4
                    replace z5 : wr.cell? ⟨g, go + ((I + q) * 6 + 5), none⟩ = some (.bool y.sg) := z5
                    obtain ⟨SN, hSN⟩ : ∃ Sx : ByteArray, ⟨(G.u8s y.name).toArray⟩ = Sx := ⟨_, rfl⟩
                    rw [hSN] at y3 z3
                    have hyt := tiles_at _ _ _ _ _ (eachL_tiles (xs.drop a)) hy
                    have hxl2 : (xs.drop a).length ≤ 300 := by rw [List.length_drop]; have := HD.out.2.2.2.2.2; omega
                    have hyf : y.fr ≤ 300 := by omega
                    have hyt2 : y.to ≤ 300 := by omega
                    generalize y.kind = yk' at *
                    generalize y.fr = yf at *
                    generalize y.to = yt at *
                    generalize y.r = yr at *
                    generalize y.sg = ysg at *
                    have HW := Lib.hid hb
                    have y1' := y1
                    rw [← Nat.add_assoc] at y1'
                    have y2' := y2
                    rw [← Nat.add_assoc] at y2'
                    have y3' := y3
                    rw [← Nat.add_assoc] at y3'
                    have y4' := y4
                    rw [← Nat.add_assoc] at y4'
                    have y5' := y5
                    rw [← Nat.add_assoc] at y5'
                    have z1' := z1
                    rw [← Nat.add_assoc] at z1'
                    have z2' := z2
                    rw [← Nat.add_assoc] at z2'
                    have z3' := z3
                    rw [← Nat.add_assoc] at z3'
                    have z4' := z4
                    rw [← Nat.add_assoc] at z4'
                    have z5' := z5
                    rw [← Nat.add_assoc] at z5'
                    clear hSN hyt hxl2 hy hA5 hql hb hfl hgl3
                    go_wp2_with fail
                    go_region
                    all_goals
                      go_wp2_with fail
                      refine ⟨⟨q + 1, by go_num, by omega, ?_⟩, by simp [RowKit.intOf]; omega⟩
                      exact HW.out.trans ((((below_new wr _).trans ((below_new _ _).mono (by simp))).drew).mono HW.out.size)
          · have d2 : ((yk : Int) == 2) = false := by simp; omega
            clear c2
            go_wp2_with fail
            refine (HD.out.1 w2 HB2.out.2.1).mono ?_
            rintro e w3 ⟨v, rfl, ho, hb3⟩
            obtain ⟨A3, c3, rfl, hS3⟩ := TS.of_own ho
            have hx7 : x.kind ≠ 7 := by rw [HD.out.2.2.1]; exact H7.out
            have hfa := HD.out.2.2.2.1
            have hRl := parts_len HD.out.2.1 hx7 HD.out.2.2.2.2.1
            rw [hfa] at hRl
            have hat := fun {q : Nat} {y : TK} (hy : (eachL (xs.drop a))[q]? = some y) => (by
              have := parts_at (n := q) (y := y) HD.out.2.1 hx7 HD.out.2.2.2.2.1 (by rw [hfa]; exact hy)
              rw [hfa] at this
              exact this : (eachL xs)[I + q]? = some (shT a y))
            obtain ⟨r, hr⟩ : ∃ r, (eachL (xs.drop a)).length = r := ⟨_, rfl⟩
            rw [hr] at hRl ⊢
            have hle3 := hS3.le
            have hmx3 := hS3.mx
            unfold maxLen at hmx3
            rw [hr] at hle3
            have hrn : (n : Int) - (I : Int) = (r : Int) := by have := HB2.out.2.2.1; omega
            have hrN : r ≤ n := by have := HB2.out.2.2.1; omega
            have hri : I + r = n := by have := HB2.out.2.2.1; omega
            have HT := Lib.hid (And.intro hS3 (And.intro (@hat) (And.intro hr (And.intro (HB2.out.2.1.trans (hb3.mono HB2.out.2.1.size)) (And.intro (HB2.out.1.on hb3) hri)))))
            clear hS3 hat hr hb3 ho hRl hx7 hfa hri k0
            go_wp2_with fail
            go_loopw [9] (fun i wr => ∃ q : Nat, i = .int .i64 (q : Int) ∧ q ≤ r ∧ Below w3.heap.size w3 wr) (fun i _ => r - (RowKit.intOf i).toNat)
            case atStart => exact ⟨0, rfl, by omega, Below.refl _ _⟩
            case round =>
              obtain ⟨q, rfl, hq, hb⟩ := hrel
              by_cases lt : q < r
              case neg =>
                have hqe : q = r := by omega
                have i1 : ¬ (q : Int) < (r : Int) := by omega
                have HE := Lib.hid (HT.out.2.2.2.1.trans (hb.mono HT.out.2.2.2.1.size))
                clear hb hqe
                go_wp2_with fail
                go_ret
                exact ⟨rfl, HE.out⟩
              case pos =>
                have i1 : (q : Int) < (r : Int) := by omega
                have hql : q < (eachL (xs.drop a)).length := by have := HT.out.2.2.1; omega
                obtain ⟨y, hy⟩ : ∃ y, (eachL (xs.drop a))[q]? = some y := ⟨_, List.getElem?_eq_getElem hql⟩
                obtain ⟨f, fo, hA4, hfl, y0, y1, y2, y3, y4, y5⟩ := (HT.out.1.below hb).r q y hy
                obtain ⟨g3, go3, hA5, hgl3, z0, z1, z2, z3, z4, z5⟩ := (HT.out.2.2.2.2.1.below hb).r (I + q) _ (HT.out.2.1 hy)
                obtain ⟨e1, e2⟩ : g3 = g ∧ go3 = go := by simpa [eq_comm] using hA5
                rw [e1, e2] at z0 z1 z2 z3 z4 z5
                rw [e1] at hgl3
                clear e1 e2
                subst hA4
                have hgw := hb.size
                have hfw : f < wr.heap.size := by omega
                have hgw2 : g < wr.heap.size := by omega
                have iq : (I : Int) + (q : Int) < (n : Int) := by have := HT.out.2.2.2.2.2; omega
                have iq2 : ((I : Int) + (q : Int)).toNat = I + q := by omega
                replace z0 : wr.cell? ⟨g, go + (I + q) * 6, none⟩ = some (.int .i64 (y.kind : Int)) := z0
                replace z1 : wr.cell? ⟨g, go + ((I + q) * 6 + 1), none⟩ = some (.int .i64 ((y.fr : Int) + (a : Int))) := by rw [z1]; simp [shT]
                replace z2 : wr.cell? ⟨g, go + ((I + q) * 6 + 2), none⟩ = some (.int .i64 ((y.to : Int) + (a : Int))) := by rw [z2]; simp [shT]
                replace z3 : wr.cell? ⟨g, go + ((I + q) * 6 + 3), none⟩ = some (.string ⟨(G.u8s y.name).toArray⟩) := z3
                replace z4 : wr.cell? ⟨g, go + ((I + q) * 6 + 4), none⟩ = some (.int .i32 y.r) := z4
                replace z5 : wr.cell? ⟨g, go + ((I + q) * 6 + 5), none⟩ = some (.bool y.sg) := z5
                obtain ⟨SN, hSN⟩ : ∃ Sx : ByteArray, ⟨(G.u8s y.name).toArray⟩ = Sx := ⟨_, rfl⟩
                rw [hSN] at y3 z3
                have hyt := tiles_at _ _ _ _ _ (eachL_tiles (xs.drop a)) hy
                have hxl2 : (xs.drop a).length ≤ 300 := by rw [List.length_drop]; have := HD.out.2.2.2.2.2; omega
                have hyf : y.fr ≤ 300 := by omega
                have hyt2 : y.to ≤ 300 := by omega
                generalize y.kind = yk' at *
                generalize y.fr = yf at *
                generalize y.to = yt at *
                generalize y.r = yr at *
                generalize y.sg = ysg at *
                have HW := Lib.hid hb
                have y1' := y1
                rw [← Nat.add_assoc] at y1'
                have y2' := y2
                rw [← Nat.add_assoc] at y2'
                have y3' := y3
                rw [← Nat.add_assoc] at y3'
                have y4' := y4
                rw [← Nat.add_assoc] at y4'
                have y5' := y5
                rw [← Nat.add_assoc] at y5'
                have z1' := z1
                rw [← Nat.add_assoc] at z1'
                have z2' := z2
                rw [← Nat.add_assoc] at z2'
                have z3' := z3
                rw [← Nat.add_assoc] at z3'
                have z4' := z4
                rw [← Nat.add_assoc] at z4'
                have z5' := z5
                rw [← Nat.add_assoc] at z5'
                clear hSN hyt hxl2 hy hA5 hql hb hfl hgl3
                go_wp2_with fail
                go_region
                all_goals
                  go_wp2_with fail
                  refine ⟨⟨q + 1, by go_num, by omega, ?_⟩, by simp [RowKit.intOf]; omega⟩
                  exact HW.out.trans ((((below_new wr _).trans ((below_new _ _).mono (by simp))).drew).mono HW.out.size)
end Go.Proofs.YtnedjafpjbfncaaGreatDoor

namespace Go.Proofs.YtnedjafpjbfncaaGreatDoor
open Go.ChangeShapes Go.WideShapes Go.ChangeAt Go.RowKit Go.Shelf
open Go.Lib
open Go.ChangeMaps (open_string shut_string)

set_option maxRecDepth 100000 in
theorem tokenParts_lifted (os : Os) (started : os.Started) (H : Type) (enc : TypeId × Value → H) :
    ReturnsInHanded {} Tryz.checked os 7 .any (fun w args => (Rows.tokenPartsSpec.pre enc Tryz.prog Tryz.f7 [] false w args ∧ laidMetH Tryz.prog laidAll8 w) ∧ sizedMet enc Tryz.prog Tryz.f7 (OpenSpec.ofChange Rows.tokenPartsSpec) false w args)
      (Rows.tokenPartsSpec.post enc Tryz.prog Tryz.f7 false true false false) := by
  refine handed_laid (C := Tryz.checked) (X := fun w _ => laidMetH Tryz.prog laidAll8 w) (fun _ _ _ hh h => h.of_heap hh) own started (by kernel_rfl) Tryz.func7
    (ChangeSpec.witness_shaped (enc := enc) (C := Tryz.checked) (os := os) (X := fun w _ => laidMetH Tryz.prog laidAll8 w) false (World.laidAll Tryz.prog os laidAll8) #[.slice none 0 0, .int .u8 0] 8 (World.laidAll_os _ _ _)
      (World.shaped_of_ZipB (by kernel_rfl) (by kernel_rfl)) (by kernel_rfl) (by kernel_rfl) (by kernel_rfl)
      (by rw [MakeChecks.laidMetH_plain _ _ _ (by kernel_rfl)]; exact laidMet_laidAll _ (by kernel_rfl) (by kernel_rfl))) ?_
  intro W base args ds gs before hsh hval0 hW hL _
  have hval : ∀ (j : Nat) t v, Tryz.f7.params[j]? = some t → args[j]? = some v → Value.okWide Tryz.prog W .any base t v := hval0
  have hW' := hW
  obtain ⟨p, q, hA0, hV, rfl, _, _⟩ := hW
  have hA : DataW.TrodAll enc Tryz.prog W 0 (fun _ => true) true Tryz.f7.params.toList args.toList ds p := hA0
  rw [Tryz.params7] at hA hval
  obtain ⟨v0, vs0, d0, ds0, p0, q0, hargs, rfl, rfl, h0, r0⟩ := trodAll_cons hA
  obtain ⟨v1, vs1, d1, ds1, p1, q1, rfl, rfl, rfl, h1, r1⟩ := trodAll_cons r0
  obtain ⟨rfl, rfl, rfl⟩ := trodAll_nil r1
  obtain rfl : args = #[v0, v1] := by cases args; simp_all
  obtain ⟨rfl, rfl⟩ := trodVars_none hV
  have t0 := h0
  have lt0 : ∀ x ∈ p0, x.block < W.heap.size := by obtain ⟨m, hm⟩ := t0; exact DataW.trod_lt m _ _ _ hm
  obtain ⟨xs0, A0, cap0, rfl, hB0⟩ := by_of_arg (hval 0 22 v0 rfl rfl) h0
  obtain ⟨a1, rfl, rfl, rfl, w1⟩ := open_int Tryz.underlying5 (hval 1 5 v1 rfl rfl) h1
  have hw1 : 0 ≤ a1 ∧ a1 ≤ 255 := by
    have := w1
    simp [Lit.wf, IntKind.min, IntKind.max, IntKind.signed, IntKind.bits] at this
    omega
  obtain ⟨k1, hk1⟩ : ∃ k : Nat, a1 = (k : Int) := ⟨a1.toNat, by omega⟩
  subst hk1
  rw [MakeChecks.laidMetH_plain _ _ _ (by kernel_rfl)] at hL
  have hT : S.Tabs W := tabs_of_reads (Lib.laidMet.reads hL (.tail _ (.tail _ (.tail _ (.tail _ (.tail _ (.tail _ (.tail _ (.head _))))))))) (Lib.laidMet.reads hL (.tail _ (.tail _ (.tail _ (.head _)))))
  have hZ : P.TZ W := tz_of_reads (Lib.laidMet.reads hL (.tail _ (.head _)))
  have hPT : PT W := pt_of_reads (Lib.laidMet.reads hL (.tail _ (.tail _ (.head _))))
  have hM : G.MX W := mx_of_shape hsh
  clear hA0 hval0
  refine (partsLaw xs0 A0 cap0 k1 (by omega) W hB0 hM hT hZ).mono fun e W' ⟨he, bel⟩ => ?_
  subst he
  exact ⟨_, rfl, _, _, _, [], _, [], hW', trodAll_mk1 (shut_bool Tryz.underlying4 _), (trodAll_cons_mk (Below.trod laidOut (by kernel_rfl) (of_decide_eq_true (by kernel_rfl)) t0 bel lt0) (trodAll_cons_mk (shut_int Tryz.underlying5 w1) trodAll_mk0)), rfl, bel.frame _, fun h => by cases h⟩

theorem tokenParts_row : Rows.TokenPartsSaid :=
  OpenClaim.holds_of_wide 7 Tryz.f7 rfl rfl rfl rfl rfl rfl rfl ⟨rfl, rfl, rfl, rfl, rfl⟩ rfl rfl rfl rfl rfl (by kernel_rfl) Tryz.func7 (by kernel_rfl)
    (of_decide_eq_true (by kernel_rfl)) (by unfold Func.isWrapper; first | (rw [if_pos (by decide +kernel)]; kernel_rfl) | (rw [if_neg (by decide +kernel)]; exact ⟨rfl, rfl⟩))
    (fun os started H enc _ => tokenParts_lifted os started H enc)

/-- THE STATEMENT. -/
theorem tokenParts_holds : Rows.TokenPartsCardSaid :=
  Claim7.holds_tied_plain_at .later [] [.data, .data, .data, .data, .sentinel, .sentinel, .pinned, .pinned] true (true, "58902377a7983df7a674fc44eaab2a8449d52dd4ee6546e63f76fbf255702d0f") true
    tokenParts_row (fun _ h => by cases h) (by kernel_rfl) (fun _ h => by cases h) tokenParts_row_tie rfl ⟨rfl, rfl⟩ (by kernel_rfl) rfl
    (fun f fn hf hfn => by
      obtain rfl : f = 7 := Option.some.inj ((show Tryz.prog.funcNamed Rows.tokenPartsRow.func = some 7 by kernel_rfl).symm.trans hf) |>.symm
      obtain rfl : fn = Tryz.f7 := (Option.some.inj (Tryz.func7.symm.trans hfn)).symm
      exact ⟨by kernel_rfl, fun j t ht => by
        rw [Tryz.params7] at ht
        have hm : t ∈ [22, 5] := by simpa using Array.mem_of_getElem? ht
        have hall : ([22, 5].all fun u => !Tryz.prog.wantsStandIn u) = true := by kernel_rfl
        exact (show Tryz.prog.wantsStandIn t = false by simpa using List.all_eq_true.1 hall t hm)⟩)
    (by kernel_rfl)
#print axioms tokenParts_holds
end Go.Proofs.YtnedjafpjbfncaaGreatDoor

