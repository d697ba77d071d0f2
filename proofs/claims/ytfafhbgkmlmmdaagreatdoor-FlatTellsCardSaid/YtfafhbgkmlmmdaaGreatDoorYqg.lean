/-
  What the rows of flat lean on, part g.
-/
import Derived.Test.YtfafhbgkmlmmdaaGreatDoorYqf
import Derived.Deep.RegionLaw
import Derived.Deep.AppendLies
set_option maxRecDepth 100000
set_option maxHeartbeats 40000000
namespace Go.Proofs.YtfafhbgkmlmmdaaGreatDoor.G
open Go.RowKit Go.Shelf Go.Lib Go.Maps Go.Sort
def tgo (N kind : Nat) (tn : List Nat) (l0 : List AT) (l : List Nat) : TG := refGo N kind ⟨1, false, tn, [], [], 0, l0⟩ l
theorem tgo_tagR (N kind : Nat) (tn : List Nat) (l0 : List AT) (l : List Nat) (f : Nat) (h : l.length ≤ f) : tgo N kind tn l0 l = tagR N kind tn f l0 l := ref_tagR N kind tn f l0 l [] [] 0 h
theorem tgo_nil {N kind : Nat} {tn : List Nat} {l0 : List AT} {l : List Nat} (h : restW eSep l = []) : tgo N kind tn l0 l = ⟨kind, N, tn, l0, false, false⟩ := by
  rw [tgo_tagR _ _ _ _ _ _ (Nat.le_refl _), tagR, h]
theorem tgo_gt {N kind : Nat} {tn : List Nat} {l0 : List AT} {l t : List Nat} (h : restW eSep l = 62 :: t) : tgo N kind tn l0 l = ⟨kind, N - t.length, tn, l0, (runW eSep l).getLast? == some 47, true⟩ := by
  rw [tgo_tagR _ _ _ _ _ _ (Nat.le_refl _), tagR, h]
  simp
theorem tgo_at {N kind : Nat} {tn : List Nat} {l0 : List AT} {l t : List Nat} {c : Nat} (h : restW eSep l = c :: t) (hc : c ≠ 62) : tgo N kind tn l0 l = tgo N kind tn (l0 ++ [(attrR (c :: t)).1]) (attrR (c :: t)).2 := by
  have hle := restW_le eSep l
  rw [h] at hle
  have hlt := attrR_lt (l := c :: t) (by simp)
  obtain ⟨f, hf⟩ : ∃ f, l.length = f + 1 := ⟨l.length - 1, by simp at hle; omega⟩
  rw [tgo_tagR _ _ _ _ _ (f + 1) (by omega), tagR, h]
  simp only [if_neg hc]
  rw [tgo_tagR _ _ _ _ _ f (by omega)]
def attM (xs : List Nat) (n : Nat) : Nat := if tkB xs (attP xs n) 61 = true then valN xs (attV xs n) else attP xs n
def attA (xs : List Nat) (n : Nat) : AT := (nameL eAttr xs n (n + 1), if tkB xs (attP xs n) 61 = true then valL xs (attV xs n) else [])
theorem attR_at {xs : List Nat} {n : Nat} (h : n < xs.length) : attrR (xs.drop n) = (attA xs n, xs.drop (attM xs n)) := by
  rw [attrR_at h]
  unfold attA attM
  split <;> rfl
theorem attr_any (g b o cap n : Nat) (xs : List Nat) (k s nm ats sg cl : Value) (w : World) (hp : PS w g b o cap xs n k s nm ats sg cl) (hn : n < xs.length) (hl : xs.length ≤ 100000) :
    Calls Tryz.prog 164 #[.pointer (some ⟨g, 0, none⟩)] w (AttOk w g b o cap xs k s nm ats sg cl (attA xs n).1 (attA xs n).2 (attM xs n)) := by
  cases ht : tkB xs (attP xs n) 61 with
  | true =>
    have e1 : attA xs n = (nameL eAttr xs n (n + 1), valL xs (attV xs n)) := by unfold attA; rw [if_pos ht]
    have e2 : attM xs n = valN xs (attV xs n) := by unfold attM; rw [if_pos ht]
    rw [e1, e2]
    exact attYes_any g b o cap n xs k s nm ats sg cl w hp hn hl ht
  | false =>
    have e1 : attA xs n = (nameL eAttr xs n (n + 1), []) := by unfold attA; rw [if_neg (by rw [ht]; simp)]
    have e2 : attM xs n = attP xs n := by unfold attM; rw [if_neg (by rw [ht]; simp)]
    rw [e1, e2]
    exact attNo_any g b o cap n xs k s nm ats sg cl w hp hn hl ht
def attC (a : AT) : List Value := [strV a.1, strV a.2]
def attsC (l : List AT) : List Value := l.flatMap attC
theorem attsC_snoc (l : List AT) (a : AT) : attsC (l ++ [a]) = attsC l ++ [strV a.1, strV a.2] := by simp [attsC, attC]
def OwnA (w : World) (base : Nat) (l : List AT) (v : Value) : Prop := w.ownsRow base 212 2 v l.length (attsC l)
theorem OwnA.below {w w' : World} {base : Nat} {l : List AT} {v : Value} (h : OwnA w base l v) (hb : Below w.heap.size w w') : OwnA w' base l v := ownsRow_below h hb
theorem OwnA.fz {w w' : World} {base : Nat} {l : List AT} {v : Value} {X : Nat → Prop} (h : OwnA w base l v) (hf : Fz X w w') (hX : ∀ k, base ≤ k → ¬ X k) : OwnA w' base l v :=
  own_fz hf h (fun k hk e => hX k (own_block_lt h k e).1 hk)
theorem OwnA.set {w : World} {base : Nat} {l : List AT} {v : Value} (h : OwnA w base l v) {j : Nat} (hj : j < base) (i : Nat) (x : Value) : OwnA (w.setCell ⟨j, i, none⟩ x) base l v :=
  h.fz (Fz.set (X := (· = j)) _ _ _ _ rfl) (fun k hk e => by omega)
theorem _root_.Go.RowKit.Below.setc {B : Nat} {w w' : World} (h : Below B w w') {j : Nat} (hj : B ≤ j) (i : Nat) (x : Value) : Below B w (w'.setCell ⟨j, i, none⟩ x) := h.setCell (p := ⟨j, i, none⟩) hj x
theorem ownA_nil (w : World) (base : Nat) : OwnA w base [] (.slice none 0 0) := ⟨rfl, .inl ⟨rfl, rfl⟩⟩
theorem ownsRow_base {w : World} {B B' e z n : Nat} {v : Value} {xs : List Value} (h : w.ownsRow B e z v n xs) (hB : B' ≤ B) : w.ownsRow B' e z v n xs := by
  refine ⟨h.1, ?_⟩
  rcases h.2 with h0 | ⟨g, cap, cur, h1, h2, h3⟩
  · exact .inl h0
  · exact .inr ⟨g, cap, cur, h1, Nat.le_trans hB h2, h3⟩
theorem OwnA.slice {w : World} {base : Nat} {l : List AT} {v : Value} (h : OwnA w base l v) : ∃ A n c, v = .slice A n c := by
  rcases h.2 with ⟨h0, _⟩ | ⟨g, cap, cur, h1, _⟩
  · exact ⟨none, 0, 0, h0⟩
  · exact ⟨_, _, _, h1⟩
theorem info40 : (Tryz.prog.info? 212).map (fun i => (i.zero, i.size, i.bytes)) = some (some (.agg #[.string ⟨#[]⟩, .string ⟨#[]⟩]), 2, 32) := by kernel_rfl
theorem info_parts {t : TypeId} {z : Value} {n b : Nat} (h : (Tryz.prog.info? t).map (fun i => (i.zero, i.size, i.bytes)) = some (some z, n, b)) : ∃ i, Tryz.prog.info? t = some i ∧ i.zero = some z ∧ i.size = n ∧ i.bytes = b := by
  cases e : Tryz.prog.info? t with
  | none => rw [e] at h; simp at h
  | some i =>
    rw [e] at h
    simp at h
    exact ⟨i, rfl, h.1, h.2.1, h.2.2⟩
def posN (w : World) (g : Nat) : Nat := match w.cell? ⟨g, 1, none⟩ with
  | some (.int _ i) => i.toNat
  | _ => 0
theorem PS.pos {w : World} {g b o cap : Nat} {xs : List Nat} {n : Nat} {k s nm ats sg cl : Value} (h : PS w g b o cap xs n k s nm ats sg cl) : posN w g = n := by
  unfold posN
  rw [h.c.cell 1]
  simp [PCs]
theorem attM_gt {xs : List Nat} {n m : Nat} (hn : n < xs.length) (hm : m = attM xs n) (hle : m ≤ xs.length) : n < m := by
  have h := attrR_lt (l := xs.drop n) (by intro e; have := congrArg List.length e; simp at this; omega)
  rw [attR_at hn, ← hm] at h
  simp at h
  omega
def tagV (T : TG) (v : Value) : Value := .agg #[.int .i64 (T.kind : Int), .int .i64 (T.size : Int), strV T.name, v, .bool T.single, .bool T.closed]
def TagOk (w : World) (T : TG) (e : Ending) (w' : World) : Prop := ∃ v, e = .returned (tagV T v) ∧ OwnA w' w.heap.size T.attrs v ∧ Below w.heap.size w w'
theorem readTag_any (b o cap n kind : Nat) (xs : List Nat) (w : World) (hb : BY w w.heap.size xs (some ⟨b, o, none⟩) cap) (hn : n < xs.length) (hl : xs.length ≤ 100000) :
    Calls Tryz.prog 126 #[.int .i64 (kind : Int), .slice (some ⟨b, o, none⟩) xs.length cap, .int .i64 (n : Int)] w (TagOk w (tgo xs.length kind (nameL eName xs n n) [] (xs.drop (n + rnN eName xs n)))) := by
  obtain ⟨T, hT⟩ : ∃ T, tgo xs.length kind (nameL eName xs n n) [] (xs.drop (n + rnN eName xs n)) = T := ⟨_, rfl⟩
  rw [hT]
  have hok : ∀ (T' : TG) v w', T' = T → OwnA w' (w.heap.size + 1 + 1) T'.attrs v → Below w.heap.size w w' → TagOk w T (.returned (tagV T' v)) w' := fun T' v w' h1 h2 h3 => by
    subst h1
    exact ⟨v, rfl, ownsRow_base h2 (by omega), h3⟩
  obtain ⟨Q, hQ⟩ : ∃ Q, TagOk w T = Q := ⟨_, rfl⟩
  rw [hQ] at hok ⊢
  have hle := rnN_le eName xs n (Nat.le_of_lt hn)
  obtain ⟨W1, hW1⟩ : ∃ W, (w.alloc (.cells #[.int .i64 0, .int .i64 0, .string ⟨#[]⟩, .slice none 0 0, .bool false, .bool false] 142)).alloc (.cells #[.slice (some ⟨b, o, none⟩) xs.length cap, .int .i64 (n : Int), .int .i64 (kind : Int), .int .i64 0, .string ⟨#[]⟩, .slice none 0 0, .bool false, .bool false] 218) = W := ⟨_, rfl⟩
  have b1 : Below w.heap.size w W1 := by rw [← hW1]; exact (below_new _ _).trans ((below_new _ _).mono (by simp))
  have p1 : PS W1 (w.heap.size + 1) b o cap xs n (.int .i64 (kind : Int)) (.int .i64 0) (.string ⟨#[]⟩) (.slice none 0 0) (.bool false) (.bool false) := by
    refine ⟨?_, (hb.below b1).mono (by omega), Nat.le_of_lt hn⟩
    have := cells_new (w.alloc (.cells #[.int .i64 0, .int .i64 0, .string ⟨#[]⟩, .slice none 0 0, .bool false, .bool false] 142)) #[.slice (some ⟨b, o, none⟩) xs.length cap, .int .i64 (n : Int), .int .i64 (kind : Int), .int .i64 0, .string ⟨#[]⟩, .slice none 0 0, .bool false, .bool false] 218
    rw [hW1, World.size_alloc] at this
    exact this
  have x1 : Cells W1 w.heap.size 142 #[.int .i64 0, .int .i64 0, .string ⟨#[]⟩, .slice none 0 0, .bool false, .bool false] := by
    rw [← hW1]
    exact (cells_new w #[.int .i64 0, .int .i64 0, .string ⟨#[]⟩, .slice none 0 0, .bool false, .bool false] 142).on (below_new _ _)
  have CN := nameT_any (w.heap.size + 1) b o cap n n xs _ _ _ _ _ _ W1 p1 (Nat.le_refl _) hn hl
  have CA := fun W g' m k s nm ats sg cl (h : PS W g' b o cap xs m k s nm ats sg cl) (hm : m < xs.length) => attr_any g' b o cap m xs k s nm ats sg cl W h hm hl
  have hmn : 0 ≤ n + rnN eName xs n := Nat.zero_le _
  unfold NameOk strV at CN
  generalize n + rnN eName xs n = M0 at *
  have hTV : ∀ T' v, T'.name = nameL eName xs n n → tagV T' v = .agg #[.int .i64 (T'.kind : Int), .int .i64 (T'.size : Int), .string ⟨(u8s (nameL eName xs n n)).toArray⟩, v, .bool T'.single, .bool T'.closed] := fun T' v h => by
    unfold tagV strV
    rw [h]
  generalize nameL eName xs n n = NL at *
  obtain ⟨NB, hNB⟩ : ∃ NB, (⟨(u8s NL).toArray⟩ : ByteArray) = NB := ⟨_, rfl⟩
  rw [hNB] at CN hTV
  have HH := Lib.hid (And.intro CN (And.intro CA (And.intro hok (And.intro hTV (And.intro hT (And.intro hl hle))))))
  have H1 := Lib.hid (And.intro b1 (And.intro p1 x1))
  clear CN CA hok hT hb hn hl hle hmn b1 p1 x1 hQ hTV hNB
  go_enter Tryz.func126, Tryz.ntmps126
  go_wp2_with fail
  refine HH.out.1.mono ?_
  rintro r w2 ⟨rfl, f2, p2⟩
  clear hW1
  have fr4 := p2.c.froz 4
  have q4 := p2.c.cell 4
  simp [PCs] at q4
  have hg2 := p2.c.lt
  have hne : ¬ w.heap.size = w.heap.size + 1 := by omega
  have H2 := Lib.hid (And.intro (H1.out.1.trans ((f2.below (B := w.heap.size) H1.out.1.size (fun k hk e => by omega)))) (And.intro p2 (f2.cells hne H1.out.2.2)))
  clear f2 p2
  go_wp2_with fail
  clear fr4 q4
  go_loopw [] (fun wr => ∃ (m : Nat) (l0 : List AT) (v : Value), PS wr (w.heap.size + 1) b o cap xs m (.int .i64 (kind : Int)) (.int .i64 0) (.string NB) v (.bool false) (.bool false) ∧ OwnA wr (w.heap.size + 1 + 1) l0 v ∧ l0.length ≤ m ∧ tgo xs.length kind NL l0 (xs.drop m) = T ∧ Below w.heap.size w wr ∧ Cells wr w.heap.size 142 #[.int .i64 0, .int .i64 0, .string ⟨#[]⟩, .slice none 0 0, .bool false, .bool false]) (fun wr => xs.length - posN wr (w.heap.size + 1))
  case atStart =>
    exact ⟨M0, [], _, H2.out.2.1.set 4 _ rfl, ownA_nil _ _, Nat.zero_le _, HH.out.2.2.2.2.1, H2.out.1.setCell (p := ⟨w.heap.size + 1, 4, none⟩) (Nat.le_succ _) _, (Fz.set (X := (· = w.heap.size + 1)) _ _ _ _ rfl).cells hne H2.out.2.2⟩
  case round =>
    obtain ⟨m, l0, v, hp, ho, hlm, hT, hbw, hx⟩ := hrel
    obtain ⟨Av, nv, cv, rfl⟩ := ho.slice
    have hlen := hp.y.len
    have hle := rnN_le eSep xs m hp.n
    have hdr := rnN_drop eSep xs m
    cases ht : tkB xs (m + rnN eSep xs m) 62 with
    | true =>
      have CF := finYes_any (w.heap.size + 1) b o cap m xs _ _ _ _ _ _ wr hp ht
      unfold FinYes at CF
      obtain ⟨SG, hSG⟩ : ∃ SG, ((runW eSep (xs.drop m)).getLast? == some 47) = SG := ⟨_, rfl⟩
      rw [hSG] at CF
      have hTT : (⟨kind, m + rnN eSep xs m + 1, NL, l0, SG, true⟩ : TG) = T := by
        have h62 : xs[m + rnN eSep xs m]? = some 62 := by simpa [tkB] using ht
        have hlt := (List.getElem?_eq_some_iff.1 h62).1
        rw [drop_at h62] at hdr
        rw [← hT, tgo_gt hdr.symm, hSG]
        simp
        omega
      have H4 := Lib.hid (And.intro ho (And.intro hTT (And.intro hbw (And.intro hx CF))))
      clear ho hT hbw hx CF hSG hp ht hTT hdr
      generalize m + rnN eSep xs m = n1 at *
      go_wp2_with fail
      refine H4.out.2.2.2.2.mono ?_
      rintro r w3 ⟨rfl, f3, p3⟩
      have q1 := p3.c.cell 1
      have q2 := p3.c.cell 2
      have q3 := p3.c.cell 3
      have q4 := p3.c.cell 4
      have q5 := p3.c.cell 5
      have q6 := p3.c.cell 6
      have q7 := p3.c.cell 7
      have fr3 := p3.c.froz 3
      have hg3 := p3.c.lt
      simp [PCs] at q1 q2 q3 q4 q5 q6 q7
      have x3 := f3.cells hne H4.out.2.2.2.1
      have s0 := x3.cell 0
      have s1 := x3.cell 1
      have s2 := x3.cell 2
      have s3 := x3.cell 3
      have s4 := x3.cell 4
      have s5 := x3.cell 5
      have t0 := x3.froz 0
      have t1 := x3.froz 1
      have t2 := x3.froz 2
      have t3 := x3.froz 3
      have t4 := x3.froz 4
      have t5 := x3.froz 5
      simp at s0 s1 s2 s3 s4 s5
      have o3 := H4.out.1.fz f3 (fun k hk e => by omega)
      have b3 := H4.out.2.2.1.trans (f3.below (B := w.heap.size) H4.out.2.2.1.size (fun k hk e => by omega))
      have HF := Lib.hid (And.intro o3 b3)
      clear f3 p3 x3 o3 b3
      go_wp2_with fail
      refine bodyPost_ret (v := .agg #[.int .i64 (kind : Int), .int .i64 ((n1 : Int) + 1), .string NB, .slice Av nv cv, .bool SG, .bool true]) ?_ rfl ?_
      · simp [results, Tryz.results126, go_sem, s0, s1, s2, s3, s4, s5]
      · have h := HH.out.2.2.1 ⟨kind, n1 + 1, NL, l0, SG, true⟩ (.slice Av nv cv) _ H4.out.2.1 (((((((HF.out.1.set (j := w.heap.size + 1) (by omega) 3 (.int .i64 ((n1 : Int) + 1))).set (j := w.heap.size) (by omega) 0 (.int .i64 (kind : Int))).set (j := w.heap.size) (by omega) 1 (.int .i64 ((n1 : Int) + 1))).set (j := w.heap.size) (by omega) 2 (.string NB)).set (j := w.heap.size) (by omega) 3 (.slice Av nv cv)).set (j := w.heap.size) (by omega) 4 (.bool SG)).set (j := w.heap.size) (by omega) 5 (.bool true))
          (((((((HF.out.2.setc (Nat.le_succ _) 3 (.int .i64 ((n1 : Int) + 1))).setc (Nat.le_refl _) 0 (.int .i64 (kind : Int))).setc (Nat.le_refl _) 1 (.int .i64 ((n1 : Int) + 1))).setc (Nat.le_refl _) 2 (.string NB)).setc (Nat.le_refl _) 3 (.slice Av nv cv)).setc (Nat.le_refl _) 4 (.bool SG)).setc (Nat.le_refl _) 5 (.bool true))
        rw [HH.out.2.2.2.1 _ _ rfl] at h
        exact h
    | false =>
      have CF := finNo_any (w.heap.size + 1) b o cap m xs _ _ _ _ _ _ wr hp ht
      unfold FinNo at CF
      by_cases hlt : m + rnN eSep xs m < xs.length
      case neg =>
        obtain ⟨n1, hn1⟩ : ∃ n1, m + rnN eSep xs m = n1 := ⟨_, rfl⟩
        rw [hn1] at CF hdr hle hlt
        have hTT : (⟨kind, n1, NL, l0, false, false⟩ : TG) = T := by
          rw [List.drop_of_length_le (by omega)] at hdr
          rw [← hT, tgo_nil hdr.symm]
          congr 1
          omega
        have e1 : ((n1 : Int) == (xs.length : Int)) = true := by rw [beq_iff_eq]; omega
        rw [e1] at CF
        have H4 := Lib.hid (And.intro ho (And.intro hTT (And.intro hbw (And.intro hx CF))))
        clear ho hT hbw hx CF hp ht hTT hdr e1 hn1 hlt
        go_wp2_with fail
        refine H4.out.2.2.2.2.mono ?_
        rintro r w3 ⟨rfl, f3, p3⟩
        have q1 := p3.c.cell 1
        have q2 := p3.c.cell 2
        have q3 := p3.c.cell 3
        have q4 := p3.c.cell 4
        have q5 := p3.c.cell 5
        have q6 := p3.c.cell 6
        have q7 := p3.c.cell 7
        have fr3 := p3.c.froz 3
        have hg3 := p3.c.lt
        simp [PCs] at q1 q2 q3 q4 q5 q6 q7
        have x3 := f3.cells hne H4.out.2.2.2.1
        have s0 := x3.cell 0
        have s1 := x3.cell 1
        have s2 := x3.cell 2
        have s3 := x3.cell 3
        have s4 := x3.cell 4
        have s5 := x3.cell 5
        have t0 := x3.froz 0
        have t1 := x3.froz 1
        have t2 := x3.froz 2
        have t3 := x3.froz 3
        have t4 := x3.froz 4
        have t5 := x3.froz 5
        simp at s0 s1 s2 s3 s4 s5
        have o3 := H4.out.1.fz f3 (fun k hk e => by omega)
        have b3 := H4.out.2.2.1.trans (f3.below (B := w.heap.size) H4.out.2.2.1.size (fun k hk e => by omega))
        have HF := Lib.hid (And.intro o3 b3)
        clear f3 p3 x3 o3 b3
        go_wp2_with fail
        refine bodyPost_ret (v := .agg #[.int .i64 (kind : Int), .int .i64 (n1 : Int), .string NB, .slice Av nv cv, .bool false, .bool false]) ?_ rfl ?_
        · simp [results, Tryz.results126, go_sem, s0, s1, s2, s3, s4, s5]
        · have h := HH.out.2.2.1 ⟨kind, n1, NL, l0, false, false⟩ (.slice Av nv cv) _ H4.out.2.1 (((((((HF.out.1.set (j := w.heap.size + 1) (by omega) 3 (.int .i64 (n1 : Int))).set (j := w.heap.size) (by omega) 0 (.int .i64 (kind : Int))).set (j := w.heap.size) (by omega) 1 (.int .i64 (n1 : Int))).set (j := w.heap.size) (by omega) 2 (.string NB)).set (j := w.heap.size) (by omega) 3 (.slice Av nv cv)).set (j := w.heap.size) (by omega) 4 (.bool false)).set (j := w.heap.size) (by omega) 5 (.bool false))
            (((((((HF.out.2.setc (Nat.le_succ _) 3 (.int .i64 (n1 : Int))).setc (Nat.le_refl _) 0 (.int .i64 (kind : Int))).setc (Nat.le_refl _) 1 (.int .i64 (n1 : Int))).setc (Nat.le_refl _) 2 (.string NB)).setc (Nat.le_refl _) 3 (.slice Av nv cv)).setc (Nat.le_refl _) 4 (.bool false)).setc (Nat.le_refl _) 5 (.bool false))
          rw [HH.out.2.2.2.1 _ _ rfl] at h
          exact h
      case pos =>
        obtain ⟨x, hx1⟩ := at_lt (l := xs) (k := m + rnN eSep xs m) hlt
        have hx62 : x ≠ 62 := by
          rintro rfl
          rw [tkB, hx1] at ht
          simp at ht
        have hat := attR_at hlt
        have hT1 : tgo xs.length kind NL (l0 ++ [attA xs (m + rnN eSep xs m)]) (xs.drop (attM xs (m + rnN eSep xs m))) = T := by
          have hdx := drop_at hx1
          rw [← hT, tgo_at (hdr.symm.trans hdx) hx62, ← hdx, hat]
        have e1 : (((m + rnN eSep xs m : Nat) : Int) == (xs.length : Int)) = false := by rw [beq_eq_false_iff_ne]; omega
        rw [e1] at CF
        have hgt := fun M hM hle => attM_gt (xs := xs) (n := m + rnN eSep xs m) (m := M) hlt hM hle
        obtain ⟨n1, hn1⟩ : ∃ n1, m + rnN eSep xs m = n1 := ⟨_, rfl⟩
        rw [hn1] at CF hlt hat hT1 hgt
        have hmn : m ≤ n1 := by omega
        have hpm := hp.pos
        have KC := fun W k s nm ats sg cl (h : PS W (w.heap.size + 1) b o cap xs n1 k s nm ats sg cl) => HH.out.2.1 W (w.heap.size + 1) n1 k s nm ats sg cl h hlt
        unfold AttOk strV at KC
        obtain ⟨N1, hN1⟩ : ∃ N1, (⟨(u8s (attA xs n1).1).toArray⟩ : ByteArray) = N1 := ⟨_, rfl⟩
        obtain ⟨V1, hV1⟩ : ∃ V1, (⟨(u8s (attA xs n1).2).toArray⟩ : ByteArray) = V1 := ⟨_, rfl⟩
        rw [hN1, hV1] at KC
        have hsn : attsC (l0 ++ [attA xs n1]) = attsC l0 ++ [.string N1, .string V1] := by rw [attsC_snoc, strV, strV, hN1, hV1]
        have hl0 : l0.length + 1 ≤ 100001 := by have := HH.out.2.2.2.2.2.1; omega
        generalize attM xs n1 = m1 at *
        generalize attA xs n1 = a1 at *
        obtain ⟨i40, hi40, hz40, hs40, hb40⟩ := info_parts info40
        have HI := Lib.hid (And.intro hi40 (And.intro hz40 (And.intro hs40 hb40)))
        have H4 := Lib.hid (And.intro ho (And.intro KC (And.intro hbw (And.intro hx (And.intro hT1 (And.intro hsn (And.intro hmn (And.intro hgt (And.intro hpm (And.intro hlm (And.intro hl0 hlt)))))))))))
        have HCF := Lib.hid CF
        clear ho KC hbw hx hT1 hsn hT CF hp ht hdr e1 hn1 hlt hat hmn hpm hx1 hx62 hN1 hV1 hi40 hz40 hs40 hb40 hgt hl0 hlm
        go_wp2_with fail
        refine HCF.out.mono ?_
        rintro r w3 ⟨rfl, f3, p3⟩
        have o3 := H4.out.1.fz f3 (fun k hk e => by omega)
        have b3 := H4.out.2.2.1.trans (f3.below (B := w.heap.size) H4.out.2.2.1.size (fun k hk e => by omega))
        have x3 := f3.cells hne H4.out.2.2.2.1
        have q5 := p3.c.cell 5
        simp [PCs] at q5
        have hg3 := p3.c.lt
        have H5 := Lib.hid (And.intro o3 (And.intro b3 (And.intro x3 p3)))
        clear f3 p3 o3 b3 x3
        go_wp2_with fail
        go_region_law (first
          | (refine step_append_lies _ rfl (.tmp 30) (.tmp 33) 140 rfl (w.heap.size + 1 + 1) 212 i40 _ 2 32 Tryz.underlying140 HI.out.1 HI.out.2.1 HI.out.2.2.1 HI.out.2.2.2 (by decide) (by decide) (.slice Av nv cv) l0.length (attsC l0) rfl HU.out.1 ⟨w4.heap.size, 0, none⟩ 1 1 [.string N1, .string V1] rfl rfl HU.out.2.1 HU.out.2.2.1 (by decide) (by have := H4.out.2.2.2.2.2.2.2.2.2.2.1; unfold maxLen; omega) (by have := H4.out.2.2.2.2.2.2.2.2.2.2.1; omega) HU.out.2.2.2.1 (w4.heap.size + 1) (by simp) ?_
             intro g5 cp5 w5 ho5 hg5 hat5 hlt5
             have hS5 := HU.out.2.2.2.2 g5 cp5 w5 ho5 hg5
             have t0 := hS5.1.c.cell 5
             simp [PCs] at t0
             have t1 := hS5.1.c.froz 5
             have t2 := hS5.1.c.lt
             have HS5 := Lib.hid hS5
             clear hS5 ho5 hg5 hat5)
          | (go_simp
             go_at_call 164
             refine (H4.out.2.1 _ _ _ _ _ _ _ H5.out.2.2.2.drew).mono ?_
             rintro rr w4 ⟨rfl, f4, p4⟩
             have o4 := (H5.out.1.fz f4.ofDrew (fun k hk e => by omega))
             have b4 := H5.out.2.1.trans (f4.ofDrew.below (B := w.heap.size) H5.out.2.1.size (fun k hk e => by omega))
             have x4 := f4.ofDrew.cells hne H5.out.2.2.1
             have q5' := p4.c.cell 5
             simp [PCs] at q5'
             have hg4 := p4.c.lt
             have al := below_new w4 (.cells #[.string N1, .string V1] 212)
             have o4a : (w4.alloc (.cells #[.string N1, .string V1] 212)).ownsRow (w.heap.size + 1 + 1) 212 2 (.slice Av nv cv) l0.length (attsC l0) := o4.below al
             have hn4 : ∀ (j : Nat) u, ([.string N1, .string V1] : List Value)[j]? = some u → (w4.alloc (.cells #[.string N1, .string V1] 212)).cell? ((⟨w4.heap.size, 0, none⟩ : Addr).add j) = some u := World.news_of_block (heap_alloc_new w4 _)
             have hone : ∀ u ∈ ([.string N1, .string V1] : List Value), u.oneCell' = true := fun u hu => by
               simp at hu
               rcases hu with rfl | rfl <;> rfl
             have hsz4 : w.heap.size + 1 + 1 ≤ (w4.alloc (.cells #[.string N1, .string V1] 212)).heap.size := by
               rw [World.size_alloc]
               omega
             have hnx : ∀ g5 cp5 w5, w5.ownsRow (w.heap.size + 1 + 1) 212 2 (.slice (some ⟨g5, 0, none⟩) (l0.length + 1) cp5) (l0.length + 1) (attsC l0 ++ [.string N1, .string V1]) → (w4.alloc (.cells #[.string N1, .string V1] 212)).grownBy w5 (Value.slice Av nv cv).ownBlock →
                 PS w5 (w.heap.size + 1) b o cap xs m1 (.int .i64 (kind : Int)) (.int .i64 0) (.string NB) (.slice Av nv cv) (.bool false) (.bool false) ∧ OwnA w5 (w.heap.size + 1 + 1) (l0 ++ [a1]) (.slice (some ⟨g5, 0, none⟩) (l0.length + 1) cp5) ∧ Below w.heap.size w w5 ∧ Cells w5 w.heap.size 142 #[.int .i64 0, .int .i64 0, .string ⟨#[]⟩, .slice none 0 0, .bool false, .bool false] := fun g5 cp5 w5 k1 k2 => by
               have hX : ∀ j, j ≤ w.heap.size + 1 → ¬ (Value.slice Av nv cv).ownBlock = some j := fun j hj e => by have := (own_block_lt o4a j e).1; omega
               have fz5 := Fz.of_grown (X := fun k => (Value.slice Av nv cv).ownBlock = some k) k2 (fun k h => h)
               refine ⟨(p4.on al).other fz5 hX, ?_, (b4.trans (al.mono b4.size)).trans (fz5.below (by rw [World.size_alloc]; have := b4.size; omega) (fun k hk => hX k (by omega))), fz5.cells (hX _ (by omega)) (x4.on al)⟩
               unfold OwnA
               rw [H4.out.2.2.2.2.2.1, List.length_append]
               exact k1
             have HU := Lib.hid (And.intro o4a (And.intro hn4 (And.intro hone (And.intro hsz4 hnx))))
             clear f4 p4 o4 b4 x4 al o4a hn4 hone hsz4 hnx))
        all_goals
          have hp5 := HS5.out.1.set 5 (.slice (some ⟨g5, 0, none⟩) (l0.length + 1) cp5) rfl
          have hmm : n1 < m1 := H4.out.2.2.2.2.2.2.2.1 m1 rfl hp5.n
          have hms : xs.length - posN (w5.setCell ⟨w.heap.size + 1, 5, none⟩ (.slice (some ⟨g5, 0, none⟩) (l0.length + 1) cp5)) (w.heap.size + 1) < xs.length - posN wr (w.heap.size + 1) := by
            rw [hp5.pos, H4.out.2.2.2.2.2.2.2.2.1]
            have h1 := H4.out.2.2.2.2.2.2.1
            have h2 := H4.out.2.2.2.2.2.2.2.2.2.2.2
            omega
          have hend : ∃ (m' : Nat) (l0' : List AT) (v' : Value), PS (w5.setCell ⟨w.heap.size + 1, 5, none⟩ (.slice (some ⟨g5, 0, none⟩) (l0.length + 1) cp5)) (w.heap.size + 1) b o cap xs m' (.int .i64 (kind : Int)) (.int .i64 0) (.string NB) v' (.bool false) (.bool false) ∧ OwnA (w5.setCell ⟨w.heap.size + 1, 5, none⟩ (.slice (some ⟨g5, 0, none⟩) (l0.length + 1) cp5)) (w.heap.size + 1 + 1) l0' v' ∧ l0'.length ≤ m' ∧ tgo xs.length kind NL l0' (xs.drop m') = T ∧ Below w.heap.size w (w5.setCell ⟨w.heap.size + 1, 5, none⟩ (.slice (some ⟨g5, 0, none⟩) (l0.length + 1) cp5)) ∧ Cells (w5.setCell ⟨w.heap.size + 1, 5, none⟩ (.slice (some ⟨g5, 0, none⟩) (l0.length + 1) cp5)) w.heap.size 142 #[.int .i64 0, .int .i64 0, .string ⟨#[]⟩, .slice none 0 0, .bool false, .bool false] := by
            refine ⟨m1, l0 ++ [a1], _, hp5, HS5.out.2.1.set (by omega) 5 _, ?_, H4.out.2.2.2.2.1, HS5.out.2.2.1.setc (Nat.le_succ _) 5 _, (Fz.set (X := (· = w.heap.size + 1)) _ _ _ _ rfl).cells hne HS5.out.2.2.2⟩
            rw [List.length_append]
            have h1 := H4.out.2.2.2.2.2.2.1
            have h2 := H4.out.2.2.2.2.2.2.2.2.2.1
            simp
            omega
          have HEND := Lib.hid (And.intro hend hms)
          clear hend hp5 hmm hms
          go_wp2_with fail
          go_roundw
          case rel => exact HEND.out.1
          case measure => exact HEND.out.2
def MX (w : World) : Prop := ∃ m : Int, w.cell? ⟨2, 0, none⟩ = some (.int .i64 m)
theorem MX.on {w w' : World} {B : Nat} (h : MX w) (hB : 2 < B) (hb : Below B w w') : MX w' := by
 obtain ⟨m, hm⟩ := h
 exact ⟨m, (hb.cell (p := ⟨2, 0, none⟩) hB).trans hm⟩
theorem MX.pos {w : World} (h : MX w) : 2 < w.heap.size := by
 obtain ⟨m, hm⟩ := h
 exact cell_lt hm
theorem MX.drewN {w : World} (h : MX w) (n : Nat) : MX (w.drewN n) := h
theorem idxB_any (w : World) (hm : MX w) (l e : List Nat) (a1 a2 : Addr) (c1 c2 B1 B2 : Nat) (h1 : BY w B1 l (some a1) c1) (h2 : BY w B2 e (some a2) c2) (hl : l.length ≤ 100000) :
  Calls Tryz.prog 166 #[.slice (some a1) l.length c1, .slice (some a2) e.length c2] w fun r w' => r = .returned (.int .i64 (Lib.index (u8s l) (u8s e))) ∧ ∃ q, w' = w.drewN q := by
 obtain ⟨m, hm⟩ := hm
 have cells : ∀ (xs : List Nat) (a : Addr) (c B : Nat), BY w B xs (some a) c → ∀ i, i < xs.length → w.cell? (a.add i) = some (.int .u8 ((xs.map fun (x : Nat) => (x : Int)).getD i 0)) := by
  intro xs a c B h i hi
  obtain ⟨x, hx⟩ := at_lt hi
  obtain ⟨b, o, e', _, hc⟩ := h.at hx
  injection e' with e'
  subst e'
  have ea : (Addr.mk b o none).add i = ⟨b, o + i, none⟩ := by
   unfold Addr.add
   by_cases h0 : i = 0 <;> simp [h0]
  rw [ea, hc]
  have : (xs.map (fun (x : Nat) => (x : Int))).getD i 0 = (x : Int) := by
   rw [List.getD_eq_getElem?_getD, List.getElem?_map, hx]; rfl
  rw [this]
 have rng : ∀ (xs : List Nat), (∀ x ∈ xs, x < 256) → ∀ x ∈ (xs.map fun (x : Nat) => (x : Int)), 0 ≤ x ∧ x < 256 := by
  intro xs h x hx
  obtain ⟨y, hy, rfl⟩ := List.mem_map.1 hx
  have := h y hy
  omega
 have C := Tryz.bytes_Index_at a1 a2 l.length c1 e.length c2 _ _ m w (by simp) (by simp) (rng l h1.i) (rng e h2.i) (cells l a1 c1 B1 h1) (cells e a2 c2 B2 h2) h1.l (by omega) (by have := h2.len; omega) hm
 rw [bytesOf_cast, bytesOf_cast] at C
 exact C
def UpOk (w : World) (T : TG) (e : Ending) (w' : World) : Prop := e = .returned (.agg #[.int .i64 (T.kind : Int), .int .i64 (T.size : Int), .string ⟨#[]⟩, .slice none 0 0, .bool false, .bool T.closed]) ∧ Below w.heap.size w w'
theorem readToC_any (b o cap : Nat) (xs : List Nat) (w : World) (hm : MX w) (hb : BY w w.heap.size xs (some ⟨b, o, none⟩) cap) (hf : 4 ≤ xs.length) (hl : xs.length ≤ 100000) :
  Calls Tryz.prog 128 #[.string ⟨#[45, 45, 62]⟩, .int .i64 2, .slice (some ⟨b, o, none⟩) xs.length cap, .int .i64 4] w (UpOk w (upGo xs.length 2 [45, 45, 62] (xs.drop 4))) := by
 have hcap := hb.l
 have hmx := hb.m
 have hmx0 := hb.m
 unfold maxLen at hmx
 have b1 := below_new w (.cells #[.int .i64 0, .int .i64 0, .string ⟨#[]⟩, .slice none 0 0, .bool false, .bool false] 142)
 obtain ⟨cp, W4, hcv0, hR, hb4⟩ := conv_str (w.alloc (.cells #[.int .i64 0, .int .i64 0, .string ⟨#[]⟩, .slice none 0 0, .bool false, .bool false] 142)) [45, 45, 62] (by decide) (by decide)
 have hcv : (convert 9 22 (.string ⟨#[45, 45, 62]⟩)).run Tryz.prog (w.alloc (.cells #[.int .i64 0, .int .i64 0, .string ⟨#[]⟩, .slice none 0 0, .bool false, .bool false] 142)) = .ok (.slice (some ⟨w.heap.size + 1, 0, none⟩) 3 cp) W4 := by
  have h := hcv0
  rw [World.size_alloc] at h
  exact h
 rw [World.size_alloc] at hR hb4
 have b4 : Below w.heap.size w W4 := b1.trans (hb4.mono (by omega))
 have x4 : Cells W4 w.heap.size 142 #[.int .i64 0, .int .i64 0, .string ⟨#[]⟩, .slice none 0 0, .bool false, .bool false] := (hb4.block _ (by omega)).trans (cells_new w _ _)
 have hm4 : MX W4 := hm.on hm.pos b4
 have hy4 := hb.on b4
 have hz4 := hR.by
 have hdl : (xs.drop 4).length = xs.length - 4 := by simp
 have hU := up_index xs.length 2 [45, 45, 62] (by simp) (by decide) (xs.drop 4) (fun x hx => hb.i x (List.mem_of_mem_drop hx)) (by simp)
 rw [hdl] at hU
 obtain ⟨T, hT⟩ : ∃ T, upGo xs.length 2 [45, 45, 62] (xs.drop 4) = T := ⟨_, rfl⟩
 rw [hT] at hU ⊢
 have hok : ∀ (v : Value) w', v = .agg #[.int .i64 (T.kind : Int), .int .i64 (T.size : Int), .string ⟨#[]⟩, .slice none 0 0, .bool false, .bool T.closed] → Below w.heap.size w w' → UpOk w T (.returned v) w' := fun v w' h1 h2 => ⟨by rw [h1], h2⟩
 have CI : ∀ (a : Addr) (c M : Nat), M = xs.length - 4 → BY W4 W4.heap.size (xs.drop 4) (some a) c → Calls Tryz.prog 166 #[.slice (some a) M c, .slice (some ⟨w.heap.size + 1, 0, none⟩) 3 cp] W4 fun r w' => r = .returned (.int .i64 (Lib.index (u8s (xs.drop 4)) (u8s [45, 45, 62]))) ∧ ∃ q, w' = W4.drewN q := fun a c M hM h => by
  subst hM
  have := idxB_any W4 hm4 (xs.drop 4) [45, 45, 62] a _ c cp _ _ h hz4 (by simp; omega)
  rw [hdl] at this
  exact this
 obtain ⟨Q, hQ⟩ : ∃ Q, UpOk w T = Q := ⟨_, rfl⟩
 rw [hQ] at hok ⊢
 have s0 := x4.cell 0
 have s1 := x4.cell 1
 have s2 := x4.cell 2
 have s3 := x4.cell 3
 have s4 := x4.cell 4
 have s5 := x4.cell 5
 have t0 := x4.froz 0
 have t1 := x4.froz 1
 have t2 := x4.froz 2
 have t3 := x4.froz 3
 have t4 := x4.froz 4
 have t5 := x4.froz 5
 simp at s0 s1 s2 s3 s4 s5
 have hsz : w.heap.size < W4.heap.size := x4.lt
 obtain ⟨I, hI⟩ : ∃ I, Lib.index (u8s (xs.drop 4)) (u8s [45, 45, 62]) = I := ⟨_, rfl⟩
 rw [hI] at hU CI
 have hdr : 4 < xs.length → BY W4 W4.heap.size (xs.drop 4) (some ⟨b, o + 4, none⟩) (cap - 4) := fun h => hy4.dropL (Nat.le_of_lt h)
 have hd0 : xs.length = 4 → ∀ (a : Addr) (c : Nat), c ≤ maxLen → BY W4 W4.heap.size (xs.drop 4) (some a) c := fun h a c hc => by
  rw [List.drop_of_length_le (by omega)]
  exact by_empty _ _ _ hc
 have HH := Lib.hid (And.intro CI (And.intro hok (And.intro b4 (And.intro hdr hd0))))
 clear CI hok b4 hy4 hz4 hR hb4 hm4 x4 b1 hcv0 hT hQ hm hb hdl hI hdr hd0
 generalize xs.length = N at *
 by_cases hlt : 4 < N
 ·have hB := Lib.hid (HH.out.2.2.2.1 hlt)
  rcases hU with ⟨hU1, hU2⟩ | ⟨kk, hU1, hU2, hU3⟩
  ·subst hU1
   have HU := Lib.hid hU2
   clear hU2
   go_enter Tryz.func128, Tryz.ntmps128
   go_wp2_with fail
   all_goals
    refine (HH.out.1 _ _ _ (by omega) hB.out).mono ?_
    rintro r w5 ⟨rfl, qq, e5⟩
    obtain rfl := e5.symm
    go_wp2_with fail
    refine bodyPost_ret (v := .agg #[.int .i64 2, .int .i64 (N : Int), .string ⟨#[]⟩, .slice none 0 0, .bool false, .bool false]) ?_ rfl ?_
    ·simp [results, Tryz.results128, go_sem, s0, s1, s2, s3, s4, s5]
    ·exact HH.out.2.1 _ _ (by rw [HU.out]; rfl) (((((((HH.out.2.2.1).trans (below_drewN (Below.refl _ _) qq)).setc (Nat.le_refl _) 0 _).setc (Nat.le_refl _) 1 _).setc (Nat.le_refl _) 2 _).setc (Nat.le_refl _) 3 _).setc (Nat.le_refl _) 4 _ |>.setc (Nat.le_refl _) 5 _)
  ·subst hU1
   have i9 : ¬ (kk : Int) < 0 := by omega
   have e1 : IntKind.i64.wrap (4 + (kk : Int)) = 4 + (kk : Int) := IntWalk.i64_in _ (by omega)
   have e2 : IntKind.i64.wrap (4 + (kk : Int) + 3) = 4 + (kk : Int) + 3 := IntWalk.i64_in _ (by omega)
   have hsz2 : ((N - (N - 4) + kk + 3 : Nat) : Int) = 4 + (kk : Int) + 3 := by omega
   have HU := Lib.hid (And.intro hU2 hsz2)
   clear hU2 hsz2
   go_enter Tryz.func128, Tryz.ntmps128
   go_wp2_with fail
   all_goals
    refine (HH.out.1 _ _ _ (by omega) hB.out).mono ?_
    rintro r w5 ⟨rfl, qq, e5⟩
    obtain rfl := e5.symm
    go_wp2_with fail
    refine bodyPost_ret (v := .agg #[.int .i64 2, .int .i64 (4 + (kk : Int) + 3), .string ⟨#[]⟩, .slice none 0 0, .bool false, .bool true]) ?_ rfl ?_
    ·simp [results, Tryz.results128, go_sem, s0, s1, s2, s3, s4, s5]
    ·exact HH.out.2.1 _ _ (by rw [HU.out.1, ← HU.out.2]; rfl) (((((((HH.out.2.2.1).trans (below_drewN (Below.refl _ _) qq)).setc (Nat.le_refl _) 0 _).setc (Nat.le_refl _) 1 _).setc (Nat.le_refl _) 2 _).setc (Nat.le_refl _) 3 _).setc (Nat.le_refl _) 4 _ |>.setc (Nat.le_refl _) 5 _)
 ·have hN : N = 4 := by omega
  have hB := Lib.hid (HH.out.2.2.2.2 hN)
  have hmx0 := Lib.hid hmx0
  have hN2 := Lib.hid hN
  clear hN
  rcases hU with ⟨hU1, hU2⟩ | ⟨kk, hU1, hU2, hU3⟩
  ·subst hU1
   have HU := Lib.hid hU2
   clear hU2
   go_enter Tryz.func128, Tryz.ntmps128
   go_wp2_with fail
   all_goals
    refine (HH.out.1 _ _ _ (by omega) (hB.out _ _ (by first | exact Nat.zero_le _ | (unfold maxLen; omega)))).mono ?_
    rintro r w5 ⟨rfl, qq, e5⟩
    obtain rfl := e5.symm
    go_wp2_with fail
    refine bodyPost_ret (v := .agg #[.int .i64 2, .int .i64 (N : Int), .string ⟨#[]⟩, .slice none 0 0, .bool false, .bool false]) ?_ rfl ?_
    ·simp [results, Tryz.results128, go_sem, s0, s1, s2, s3, s4, s5]
    ·exact HH.out.2.1 _ _ (by rw [HU.out]; rfl) (((((((HH.out.2.2.1).trans (below_drewN (Below.refl _ _) qq)).setc (Nat.le_refl _) 0 _).setc (Nat.le_refl _) 1 _).setc (Nat.le_refl _) 2 _).setc (Nat.le_refl _) 3 _).setc (Nat.le_refl _) 4 _ |>.setc (Nat.le_refl _) 5 _)
  ·subst hU1
   have i9 : ¬ (kk : Int) < 0 := by omega
   have e1 : IntKind.i64.wrap (4 + (kk : Int)) = 4 + (kk : Int) := IntWalk.i64_in _ (by omega)
   have e2 : IntKind.i64.wrap (4 + (kk : Int) + 3) = 4 + (kk : Int) + 3 := IntWalk.i64_in _ (by omega)
   have hsz2 : ((N - (N - 4) + kk + 3 : Nat) : Int) = 4 + (kk : Int) + 3 := by omega
   have HU := Lib.hid (And.intro hU2 hsz2)
   clear hU2 hsz2
   go_enter Tryz.func128, Tryz.ntmps128
   go_wp2_with fail
   all_goals
    refine (HH.out.1 _ _ _ (by omega) (hB.out _ _ (by first | exact Nat.zero_le _ | (unfold maxLen; omega)))).mono ?_
    rintro r w5 ⟨rfl, qq, e5⟩
    obtain rfl := e5.symm
    go_wp2_with fail
    refine bodyPost_ret (v := .agg #[.int .i64 2, .int .i64 (4 + (kk : Int) + 3), .string ⟨#[]⟩, .slice none 0 0, .bool false, .bool true]) ?_ rfl ?_
    ·simp [results, Tryz.results128, go_sem, s0, s1, s2, s3, s4, s5]
    ·exact HH.out.2.1 _ _ (by rw [HU.out.1, ← HU.out.2]; rfl) (((((((HH.out.2.2.1).trans (below_drewN (Below.refl _ _) qq)).setc (Nat.le_refl _) 0 _).setc (Nat.le_refl _) 1 _).setc (Nat.le_refl _) 2 _).setc (Nat.le_refl _) 3 _).setc (Nat.le_refl _) 4 _ |>.setc (Nat.le_refl _) 5 _)
theorem readToD_any (b o cap : Nat) (xs : List Nat) (w : World) (hm : MX w) (hb : BY w w.heap.size xs (some ⟨b, o, none⟩) cap) (hf : 1 ≤ xs.length) (hl : xs.length ≤ 100000) :
  Calls Tryz.prog 128 #[.string ⟨#[62]⟩, .int .i64 3, .slice (some ⟨b, o, none⟩) xs.length cap, .int .i64 1] w (UpOk w (upGo xs.length 3 [62] (xs.drop 1))) := by
 have hcap := hb.l
 have hmx := hb.m
 have hmx0 := hb.m
 unfold maxLen at hmx
 have b1 := below_new w (.cells #[.int .i64 0, .int .i64 0, .string ⟨#[]⟩, .slice none 0 0, .bool false, .bool false] 142)
 obtain ⟨cp, W4, hcv0, hR, hb4⟩ := conv_str (w.alloc (.cells #[.int .i64 0, .int .i64 0, .string ⟨#[]⟩, .slice none 0 0, .bool false, .bool false] 142)) [62] (by decide) (by decide)
 have hcv : (convert 9 22 (.string ⟨#[62]⟩)).run Tryz.prog (w.alloc (.cells #[.int .i64 0, .int .i64 0, .string ⟨#[]⟩, .slice none 0 0, .bool false, .bool false] 142)) = .ok (.slice (some ⟨w.heap.size + 1, 0, none⟩) 1 cp) W4 := by
  have h := hcv0
  rw [World.size_alloc] at h
  exact h
 rw [World.size_alloc] at hR hb4
 have b4 : Below w.heap.size w W4 := b1.trans (hb4.mono (by omega))
 have x4 : Cells W4 w.heap.size 142 #[.int .i64 0, .int .i64 0, .string ⟨#[]⟩, .slice none 0 0, .bool false, .bool false] := (hb4.block _ (by omega)).trans (cells_new w _ _)
 have hm4 : MX W4 := hm.on hm.pos b4
 have hy4 := hb.on b4
 have hz4 := hR.by
 have hdl : (xs.drop 1).length = xs.length - 1 := by simp
 have hU := up_index xs.length 3 [62] (by simp) (by decide) (xs.drop 1) (fun x hx => hb.i x (List.mem_of_mem_drop hx)) (by simp)
 rw [hdl] at hU
 obtain ⟨T, hT⟩ : ∃ T, upGo xs.length 3 [62] (xs.drop 1) = T := ⟨_, rfl⟩
 rw [hT] at hU ⊢
 have hok : ∀ (v : Value) w', v = .agg #[.int .i64 (T.kind : Int), .int .i64 (T.size : Int), .string ⟨#[]⟩, .slice none 0 0, .bool false, .bool T.closed] → Below w.heap.size w w' → UpOk w T (.returned v) w' := fun v w' h1 h2 => ⟨by rw [h1], h2⟩
 have CI : ∀ (a : Addr) (c M : Nat), M = xs.length - 1 → BY W4 W4.heap.size (xs.drop 1) (some a) c → Calls Tryz.prog 166 #[.slice (some a) M c, .slice (some ⟨w.heap.size + 1, 0, none⟩) 1 cp] W4 fun r w' => r = .returned (.int .i64 (Lib.index (u8s (xs.drop 1)) (u8s [62]))) ∧ ∃ q, w' = W4.drewN q := fun a c M hM h => by
  subst hM
  have := idxB_any W4 hm4 (xs.drop 1) [62] a _ c cp _ _ h hz4 (by simp; omega)
  rw [hdl] at this
  exact this
 obtain ⟨Q, hQ⟩ : ∃ Q, UpOk w T = Q := ⟨_, rfl⟩
 rw [hQ] at hok ⊢
 have s0 := x4.cell 0
 have s1 := x4.cell 1
 have s2 := x4.cell 2
 have s3 := x4.cell 3
 have s4 := x4.cell 4
 have s5 := x4.cell 5
 have t0 := x4.froz 0
 have t1 := x4.froz 1
 have t2 := x4.froz 2
 have t3 := x4.froz 3
 have t4 := x4.froz 4
 have t5 := x4.froz 5
 simp at s0 s1 s2 s3 s4 s5
 have hsz : w.heap.size < W4.heap.size := x4.lt
 obtain ⟨I, hI⟩ : ∃ I, Lib.index (u8s (xs.drop 1)) (u8s [62]) = I := ⟨_, rfl⟩
 rw [hI] at hU CI
 have hdr : 1 < xs.length → BY W4 W4.heap.size (xs.drop 1) (some ⟨b, o + 1, none⟩) (cap - 1) := fun h => hy4.dropL (Nat.le_of_lt h)
 have hd0 : xs.length = 1 → ∀ (a : Addr) (c : Nat), c ≤ maxLen → BY W4 W4.heap.size (xs.drop 1) (some a) c := fun h a c hc => by
  rw [List.drop_of_length_le (by omega)]
  exact by_empty _ _ _ hc
 have HH := Lib.hid (And.intro CI (And.intro hok (And.intro b4 (And.intro hdr hd0))))
 clear CI hok b4 hy4 hz4 hR hb4 hm4 x4 b1 hcv0 hT hQ hm hb hdl hI hdr hd0
 generalize xs.length = N at *
 by_cases hlt : 1 < N
 ·have hB := Lib.hid (HH.out.2.2.2.1 hlt)
  rcases hU with ⟨hU1, hU2⟩ | ⟨kk, hU1, hU2, hU3⟩
  ·subst hU1
   have HU := Lib.hid hU2
   clear hU2
   go_enter Tryz.func128, Tryz.ntmps128
   go_wp2_with fail
   all_goals
    refine (HH.out.1 _ _ _ (by omega) hB.out).mono ?_
    rintro r w5 ⟨rfl, qq, e5⟩
    obtain rfl := e5.symm
    go_wp2_with fail
    refine bodyPost_ret (v := .agg #[.int .i64 3, .int .i64 (N : Int), .string ⟨#[]⟩, .slice none 0 0, .bool false, .bool false]) ?_ rfl ?_
    ·simp [results, Tryz.results128, go_sem, s0, s1, s2, s3, s4, s5]
    ·exact HH.out.2.1 _ _ (by rw [HU.out]; rfl) (((((((HH.out.2.2.1).trans (below_drewN (Below.refl _ _) qq)).setc (Nat.le_refl _) 0 _).setc (Nat.le_refl _) 1 _).setc (Nat.le_refl _) 2 _).setc (Nat.le_refl _) 3 _).setc (Nat.le_refl _) 4 _ |>.setc (Nat.le_refl _) 5 _)
  ·subst hU1
   have i9 : ¬ (kk : Int) < 0 := by omega
   have e1 : IntKind.i64.wrap (1 + (kk : Int)) = 1 + (kk : Int) := IntWalk.i64_in _ (by omega)
   have e2 : IntKind.i64.wrap (1 + (kk : Int) + 1) = 1 + (kk : Int) + 1 := IntWalk.i64_in _ (by omega)
   have hsz2 : ((N - (N - 1) + kk + 1 : Nat) : Int) = 1 + (kk : Int) + 1 := by omega
   have HU := Lib.hid (And.intro hU2 hsz2)
   clear hU2 hsz2
   go_enter Tryz.func128, Tryz.ntmps128
   go_wp2_with fail
   all_goals
    refine (HH.out.1 _ _ _ (by omega) hB.out).mono ?_
    rintro r w5 ⟨rfl, qq, e5⟩
    obtain rfl := e5.symm
    go_wp2_with fail
    refine bodyPost_ret (v := .agg #[.int .i64 3, .int .i64 (1 + (kk : Int) + 1), .string ⟨#[]⟩, .slice none 0 0, .bool false, .bool true]) ?_ rfl ?_
    ·simp [results, Tryz.results128, go_sem, s0, s1, s2, s3, s4, s5]
    ·exact HH.out.2.1 _ _ (by rw [HU.out.1, ← HU.out.2]; rfl) (((((((HH.out.2.2.1).trans (below_drewN (Below.refl _ _) qq)).setc (Nat.le_refl _) 0 _).setc (Nat.le_refl _) 1 _).setc (Nat.le_refl _) 2 _).setc (Nat.le_refl _) 3 _).setc (Nat.le_refl _) 4 _ |>.setc (Nat.le_refl _) 5 _)
 ·have hN : N = 1 := by omega
  have hB := Lib.hid (HH.out.2.2.2.2 hN)
  have hmx0 := Lib.hid hmx0
  have hN2 := Lib.hid hN
  clear hN
  rcases hU with ⟨hU1, hU2⟩ | ⟨kk, hU1, hU2, hU3⟩
  ·subst hU1
   have HU := Lib.hid hU2
   clear hU2
   go_enter Tryz.func128, Tryz.ntmps128
   go_wp2_with fail
   all_goals
    refine (HH.out.1 _ _ _ (by omega) (hB.out _ _ (by first | exact Nat.zero_le _ | (unfold maxLen; omega)))).mono ?_
    rintro r w5 ⟨rfl, qq, e5⟩
    obtain rfl := e5.symm
    go_wp2_with fail
    refine bodyPost_ret (v := .agg #[.int .i64 3, .int .i64 (N : Int), .string ⟨#[]⟩, .slice none 0 0, .bool false, .bool false]) ?_ rfl ?_
    ·simp [results, Tryz.results128, go_sem, s0, s1, s2, s3, s4, s5]
    ·exact HH.out.2.1 _ _ (by rw [HU.out]; rfl) (((((((HH.out.2.2.1).trans (below_drewN (Below.refl _ _) qq)).setc (Nat.le_refl _) 0 _).setc (Nat.le_refl _) 1 _).setc (Nat.le_refl _) 2 _).setc (Nat.le_refl _) 3 _).setc (Nat.le_refl _) 4 _ |>.setc (Nat.le_refl _) 5 _)
  ·subst hU1
   have i9 : ¬ (kk : Int) < 0 := by omega
   have e1 : IntKind.i64.wrap (1 + (kk : Int)) = 1 + (kk : Int) := IntWalk.i64_in _ (by omega)
   have e2 : IntKind.i64.wrap (1 + (kk : Int) + 1) = 1 + (kk : Int) + 1 := IntWalk.i64_in _ (by omega)
   have hsz2 : ((N - (N - 1) + kk + 1 : Nat) : Int) = 1 + (kk : Int) + 1 := by omega
   have HU := Lib.hid (And.intro hU2 hsz2)
   clear hU2 hsz2
   go_enter Tryz.func128, Tryz.ntmps128
   go_wp2_with fail
   all_goals
    refine (HH.out.1 _ _ _ (by omega) (hB.out _ _ (by first | exact Nat.zero_le _ | (unfold maxLen; omega)))).mono ?_
    rintro r w5 ⟨rfl, qq, e5⟩
    obtain rfl := e5.symm
    go_wp2_with fail
    refine bodyPost_ret (v := .agg #[.int .i64 3, .int .i64 (1 + (kk : Int) + 1), .string ⟨#[]⟩, .slice none 0 0, .bool false, .bool true]) ?_ rfl ?_
    ·simp [results, Tryz.results128, go_sem, s0, s1, s2, s3, s4, s5]
    ·exact HH.out.2.1 _ _ (by rw [HU.out.1, ← HU.out.2]; rfl) (((((((HH.out.2.2.1).trans (below_drewN (Below.refl _ _) qq)).setc (Nat.le_refl _) 0 _).setc (Nat.le_refl _) 1 _).setc (Nat.le_refl _) 2 _).setc (Nat.le_refl _) 3 _).setc (Nat.le_refl _) 4 _ |>.setc (Nat.le_refl _) 5 _)
end Go.Proofs.YtfafhbgkmlmmdaaGreatDoor.G
