/-
  The weights of runs, and the code that they have, on paper.
  The best codes of what tokens tell, as many lengths as a head must tell, on paper.
  Numbers appended onto an own row, in a plain region; apart from the texts on least costs.
  slices.Concat of two rows of numbers.
  lens.Write: a head is put, or refused.
  deflate.trimmed, bestLens and Dynamic of tokens that may be.
-/
import Derived.Test.YtfmjfgmbjdhogaaGreatDoorMs22
import Derived.Lib.AppendZerosOnto
import Derived.Deep.CutBlock
namespace Go.Proofs.YtfmjfgmbjdhogaaGreatDoor
open Go.RowKit
set_option linter.unusedVariables false
set_option linter.unusedSimpArgs false

/-- How often each symbol stands. -/
def cntR : List (Int × Int) → List Int → List Int
  | [], W => W
  | y :: r, W => cntR r (W.set y.1.toNat (W.getD y.1.toNat 0 + 1))
theorem cntR_snoc : ∀ (rs : List (Int × Int)) (y : Int × Int) (W : List Int), cntR (rs ++ [y]) W = (cntR rs W).set y.1.toNat ((cntR rs W).getD y.1.toNat 0 + 1)
  | [], y, W => rfl
  | z :: r, y, W => by rw [List.cons_append, cntR, cntR, cntR_snoc r y]
theorem cntR_len : ∀ (rs : List (Int × Int)) (W : List Int), (cntR rs W).length = W.length
  | [], W => rfl
  | z :: r, W => by rw [cntR, cntR_len r, List.length_set]
def cnt19 (rs : List (Int × Int)) : List Int := cntR rs (List.replicate 19 0)
theorem cnt19_len (rs : List (Int × Int)) : (cnt19 rs).length = 19 := by unfold cnt19; rw [cntR_len, List.length_replicate]
theorem cnt19_snoc (rs : List (Int × Int)) (y : Int × Int) : cnt19 (rs ++ [y]) = (cnt19 rs).set y.1.toNat ((cnt19 rs).getD y.1.toNat 0 + 1) := cntR_snoc _ _ _
theorem cntR_mono : ∀ (rs : List (Int × Int)) (W : List Int) (j : Nat), W.getD j 0 ≤ (cntR rs W).getD j 0
  | [], W, j => Int.le_refl _
  | z :: r, W, j => by
    rw [cntR]
    refine Int.le_trans ?_ (cntR_mono r _ j)
    by_cases h : z.1.toNat < W.length
    · rw [getD_setH _ _ _ _ h]; split
      · rename_i e; rw [e]; omega
      · exact Int.le_refl _
    · rw [List.set_eq_of_length_le (by omega)]; exact Int.le_refl _
theorem cntR_pos : ∀ (rs : List (Int × Int)) (W : List Int), (∀ j, 0 ≤ W.getD j 0) → ∀ y ∈ rs, y.1.toNat < W.length → 0 < (cntR rs W).getD y.1.toNat 0
  | [], W, h0, y, hy, hl => absurd hy (by simp)
  | z :: r, W, h0, y, hy, hl => by
    have h0' : ∀ j, 0 ≤ (W.set z.1.toNat (W.getD z.1.toNat 0 + 1)).getD j 0 := fun j => by
      by_cases h : z.1.toNat < W.length
      · rw [getD_setH _ _ _ _ h]; split
        · have := h0 z.1.toNat; omega
        · exact h0 j
      · rw [List.set_eq_of_length_le (by omega)]; exact h0 j
    rw [cntR]
    rcases List.mem_cons.1 hy with e | h
    · subst e
      have := cntR_mono r (W.set y.1.toNat (W.getD y.1.toNat 0 + 1)) y.1.toNat
      rw [getD_setH _ _ _ _ hl, if_pos rfl] at this
      have := h0 y.1.toNat
      omega
    · exact cntR_pos r _ h0' y h (by rw [List.length_set]; exact hl)
theorem cntR_small : ∀ (rs : List (Int × Int)) (W : List Int) (m : Int), Small m W → Small (m + rs.length) (cntR rs W)
  | [], W, m, h => by simpa [cntR] using h
  | z :: r, W, m, h => by
    rw [cntR]
    have hw : Small (m + 1) (W.set z.1.toNat (W.getD z.1.toNat 0 + 1)) := fun b hb => by
      rcases List.mem_or_eq_of_mem_set hb with h1 | h1
      · have := h b h1; omega
      · by_cases hl : z.1.toNat < W.length
        · have e : W.getD z.1.toNat 0 = W[z.1.toNat] := by simp [List.getD, hl]
          have := h _ (List.getElem_mem hl)
          rw [h1, e]; omega
        · have e : W.getD z.1.toNat 0 = 0 := by simp [List.getD, List.getElem?_eq_none (Nat.le_of_not_lt hl)]
          rw [List.set_eq_of_length_le (by omega)] at hb
          have := h b hb; omega
    have := cntR_small r _ (m + 1) hw
    rw [List.length_cons]
    have e : m + 1 + (r.length : Int) = m + ((r.length + 1 : Nat) : Int) := by push_cast; omega
    rw [← e]; exact this
theorem cnt19_small (rs : List (Int × Int)) : Small rs.length (cnt19 rs) := by
  have := cntR_small rs (List.replicate 19 0) 0 (fun b hb => by rw [List.eq_of_mem_replicate hb]; decide)
  rw [Int.zero_add] at this
  exact this
theorem cnt19_pos (rs : List (Int × Int)) (y : Int × Int) (hy : y ∈ rs) (h : y.1.toNat < 19) : 0 < (cnt19 rs).getD y.1.toNat 0 :=
  cntR_pos rs _ (fun j => by rw [rep0]; exact Int.le_refl _) y hy (by rw [List.length_replicate]; exact h)
/-- What runs that are told are. -/
theorem runAll_ok (n : Int) : ∀ (rs : List (Int × Int)) (l F : List Int), runAll n l rs = some F → ∀ y ∈ rs, 0 ≤ y.1 ∧ y.1 ≤ 18 ∧ 0 ≤ y.2 ∧ y.2 ≤ spanM y.1
  | [], l, F, h, y, hy => absurd hy (by simp)
  | (s, x) :: r, l, F, h, y, hy => by
    rw [runAll] at h
    split at h
    · rename_i hok
      rcases List.mem_cons.1 hy with e | hm
      · subst e; exact ⟨hok.1.1, hok.1.2.1, hok.1.2.2.1, hok.1.2.2.2.1⟩
      · exact runAll_ok n r _ F h y hm
    · cases h
theorem ref_lens7 (ws : List Int) (lv : List Lf) (hok : LensOkP ws 7) (hs : SrtP lv (leavesL 0 ws)) : refS (lensOf lv ws.length 7) = 0 := by
  have hF := lensF ws 7 lv hok hs
  have e15 : (7 : Int).toNat = 7 := rfl
  rw [e15] at hF
  unfold refS
  rw [if_neg]
  by_cases n0 : lv.length = 0
  · have e : lensOf lv ws.length 7 = List.replicate ws.length 0 := by unfold lensOf; rw [if_pos n0]
    rw [e]
    unfold kindS
    rw [if_pos (by rw [count_rep0]; simp)]
    omega
  · by_cases n1 : lv.length = 1
    · have e : lensOf lv ws.length 7 = (List.replicate ws.length 0).set (lv.getD 0 (0, 0)).1.toNat 1 := by unfold lensOf; rw [if_neg n0, if_pos n1]
      have hm : lv.getD 0 (0, 0) ∈ lv := getD_mem lv 0 (by omega)
      obtain ⟨_, q, hq, hql⟩ := leaf_place hok.small hs _ hm
      have hc := count_set ws.length q hql
      rw [e, hq, Int.toNat_natCast]
      unfold kindS
      rw [List.length_set, List.length_replicate, if_neg (by omega), if_pos ⟨by omega, hc.2⟩]
      omega
    · have hk := hF.kraft
      rw [if_neg n0, if_neg n1] at hk
      unfold kindS
      rw [hk]
      split
      · omega
      · split
        · omega
        · simp

/-- The code of weights, one of them above nought, by seven bits. -/
theorem code_of (A : List Int) (lv : List Lf) (hok : LensOkP A 7) (hs : SrtP lv (leavesL 0 A)) (p : Nat) (hp : p < A.length) (h0 : 0 < A.getD p 0) :
    (lensOf lv A.length 7).length = A.length ∧ Small 7 (lensOf lv A.length 7) ∧ fullB (lensOf lv A.length 7) = true ∧ ∀ q, q < A.length → (0 < A.getD q 0 ↔ 0 < (lensOf lv A.length 7).getD q 0) := by
  have hF := lensF A 7 lv hok hs
  have e7 : (7 : Int).toNat = 7 := rfl
  have hr := ref_lens7 A lv hok hs
  rw [e7] at hF
  obtain ⟨Z, hZ⟩ : ∃ Z, Z = lensOf lv A.length 7 := ⟨_, rfl⟩
  rw [← hZ] at hF hr ⊢
  have hsm : Small 7 Z := fun z hz => by
    obtain ⟨q, hq, e⟩ := List.mem_iff_getElem.1 hz
    have h := hF.bd q (by rw [← hF.len]; exact hq)
    have e2 : Z.getD q 0 = z := by simp [List.getD, hq, e]
    rw [e2] at h
    omega
  refine ⟨hF.len, hsm, ?_, hF.pos⟩
  have hz := (hF.pos p hp).1 h0
  have hzl : p < Z.length := by rw [hF.len]; exact hp
  have hn1 : kindS Z ≠ 1 := by
    unfold kindS
    have hc : Z.length ≠ Z.count 0 := fun e => by
      have hall := List.count_eq_length.1 e.symm
      have e2 : Z.getD p 0 = Z[p] := by simp [List.getD, hzl]
      have := hall _ (List.getElem_mem hzl)
      rw [e2, ← this] at hz
      omega
    rw [if_neg hc]
    split
    · decide
    · split
      · decide
      · split <;> decide
  unfold fullB kindA
  have hlen := hok.len
  rw [if_pos ⟨by rw [hF.len]; exact hlen, small7_15 hsm⟩]
  unfold refS at hr
  rcases kindS_of Z with k | k | k | k | k <;> simp [k] at hr hn1 ⊢
end Go.Proofs.YtfmjfgmbjdhogaaGreatDoor

namespace Go.Proofs.YtfmjfgmbjdhogaaGreatDoor
open Go.RowKit
set_option linter.unusedVariables false
set_option linter.unusedSimpArgs false

/-- zs is its first n and noughts. -/
structure TrimW (least : Nat) (zs : List Int) (n : Nat) : Prop where
  lo : least ≤ n
  hi : n ≤ zs.length
  tail : ∀ i, n ≤ i → i < zs.length → zs.getD i 0 = 0
/-- .. and no less would do. -/
structure TrimP (least : Nat) (zs : List Int) (n : Nat) : Prop extends TrimW least zs n where
  top : n = least ∨ zs.getD (n - 1) 0 ≠ 0
theorem TrimP.eq {least n : Nat} {zs : List Int} (h : TrimP least zs n) : zs = zs.take n ++ List.replicate (zs.length - n) 0 := by
  apply List.ext_getElem?
  intro i
  by_cases h1 : i < n
  · rw [List.getElem?_append_left (by rw [List.length_take]; have := h.hi; omega), List.getElem?_take, if_pos h1]
  · rw [List.getElem?_append_right (by rw [List.length_take]; omega), List.getElem?_replicate, List.length_take]
    by_cases h2 : i < zs.length
    · have := h.tail i (by omega) h2
      rw [List.getD, List.getElem?_eq_getElem h2, Option.getD_some] at this
      have hi := h.hi
      rw [List.getElem?_eq_getElem h2, this, if_pos (by omega)]
    · have hi := h.hi
      rw [List.getElem?_eq_none (by omega), if_neg (by omega)]
theorem tail_kind (k : Nat) (L : List Int) : kindS (L ++ List.replicate k 0) = kindS L := by
  have h0 : (L ++ List.replicate k 0).count 0 = L.count 0 + k := by rw [List.count_append, count_rep0]
  have h1 : (L ++ List.replicate k 0).count 1 = L.count 1 := by
    rw [List.count_append, List.count_replicate]; simp
  have hk : kraftL (L ++ List.replicate k 0) = kraftL L := by rw [kraft_append, kraft_zero]; omega
  have hl : (L ++ List.replicate k 0).length = L.length + k := by simp
  unfold kindS
  rw [h0, h1, hk, hl]
  have e1 : (L.length + k = L.count 0 + k) = (L.length = L.count 0) := by apply propext; omega
  have e2 : (L.length + k = L.count 0 + k + 1 ∧ L.count 1 = 1) = (L.length = L.count 0 + 1 ∧ L.count 1 = 1) := by apply propext; omega
  simp only [e1, e2]
theorem TrimP.kind {least n : Nat} {zs : List Int} (h : TrimP least zs n) : kindS (zs.take n) = kindS zs := by
  conv => rhs; rw [h.eq]
  rw [tail_kind]
theorem TrimP.get {least n : Nat} {zs : List Int} (h : TrimP least zs n) (i : Nat) (hi : 0 < zs.getD i 0) : i < n ∧ (zs.take n).getD i 0 = zs.getD i 0 := by
  have hl : i < zs.length := by
    apply Classical.byContradiction; intro hn
    rw [List.getD, List.getElem?_eq_none (by omega)] at hi; simp at hi
  have hn : i < n := by
    apply Classical.byContradiction; intro hn
    have := h.tail i (by omega) hl
    omega
  refine ⟨hn, ?_⟩
  rw [List.getD, List.getD, List.getElem?_take, if_pos hn]
theorem TrimP.len {least n : Nat} {zs : List Int} (h : TrimP least zs n) : (zs.take n).length = n := by
  rw [List.length_take]; have := h.hi; omega
theorem kraft_le_tail (k : Nat) : ∀ (A L : List Int), costL A (L ++ List.replicate k 0) = costL A L
  | [], L => by cases L <;> cases k <;> simp [costL, List.replicate_succ]
  | a :: A, [] => by
    rw [List.nil_append]
    cases k with
    | zero => rfl
    | succ k =>
      rw [List.replicate_succ, costL]
      have := kraft_le_tail k A []
      rw [List.nil_append] at this
      rw [this]
      cases A <;> simp [costL]
  | a :: A, z :: L => by
    rw [List.cons_append, costL, costL, kraft_le_tail k A L]
/-- The best lengths for weights. -/
def BestL (least : Nat) (ws zs : List Int) : Prop := ∃ lv n, SrtP lv (leavesL 0 ws) ∧ TrimP least (lensOf lv ws.length 15) n ∧ zs = (lensOf lv ws.length 15).take n
theorem BestL.facts {least : Nat} {ws zs : List Int} (h : BestL least ws zs) (hok : LensOkP ws 15) :
    CodeOk zs ∧ least ≤ zs.length ∧ zs.length ≤ ws.length ∧ (∀ k, 0 < ws.getD k 0 → k < zs.length ∧ 0 < zs.getD k 0) ∧ ∃ lv, SrtP lv (leavesL 0 ws) ∧ costL ws zs = leastL (lv.map (·.2)) 15 := by
  obtain ⟨lv, n, hs, ht, rfl⟩ := h
  have hF := lensF ws 15 lv hok hs
  have e15 : (15 : Int).toNat = 15 := rfl
  rw [e15] at hF
  have hr := ref_lens ws lv hok hs
  have hsm : Small 15 (lensOf lv ws.length 15) := fun z hz => by
    obtain ⟨q, hq, e⟩ := List.mem_iff_getElem.1 hz
    have h := hF.bd q (by rw [← hF.len]; exact hq)
    have e2 : (lensOf lv ws.length 15).getD q 0 = z := by simp [List.getD, hq, e]
    rw [e2] at h
    exact h
  refine ⟨⟨?_, fun z hz => hsm z (List.mem_of_mem_take hz), ?_⟩, ?_, ?_, ?_, ?_⟩
  · rw [ht.len]; have := ht.hi; have := hF.len; have := hok.len; omega
  · unfold refS at hr ⊢
    rw [ht.kind]; exact hr
  · rw [ht.len]; exact ht.lo
  · rw [ht.len]; have := ht.hi; have := hF.len; omega
  · intro k hk
    have hkl : k < ws.length := by
      apply Classical.byContradiction; intro hn
      rw [List.getD, List.getElem?_eq_none (by omega)] at hk; simp at hk
    have h1 := (hF.pos k hkl).1 hk
    have h2 := ht.get k h1
    rw [ht.len, h2.2]
    exact ⟨h2.1, h1⟩
  · have hc := hF.cost
    rw [ht.eq, kraft_le_tail] at hc
    exact ⟨lv, hs, hc⟩
/-- A row with a code above 0 in it is whole or a lone code. -/
theorem full_of {zs : List Int} (h : CodeOk zs) {p : Nat} (hp : p < zs.length) (hz : 0 < zs.getD p 0) : fullB zs = true := by
  obtain ⟨h1, h2, hr⟩ := h
  have hn1 : kindS zs ≠ 1 := by
    unfold kindS
    have hc : zs.length ≠ zs.count 0 := fun e => by
      have hall := List.count_eq_length.1 e.symm
      have e2 : zs.getD p 0 = zs[p] := by simp [List.getD, hp]
      have := hall _ (List.getElem_mem hp)
      rw [e2, ← this] at hz
      omega
    rw [if_neg hc]
    split
    · decide
    · split
      · decide
      · split <;> decide
  unfold fullB kindA
  rw [if_pos ⟨h1, h2⟩]
  unfold refS at hr
  rcases kindS_of zs with k | k | k | k | k <;> simp [k] at hr hn1 ⊢
theorem dist_of {zs : List Int} (h : CodeOk zs) : fullB zs = true ∨ kindA zs = 1 := by
  obtain ⟨h1, h2, hr⟩ := h
  unfold fullB kindA
  rw [if_pos ⟨h1, h2⟩]
  unfold refS at hr
  rcases kindS_of zs with k | k | k | k | k <;> simp [k] at hr ⊢
/-- Counts only rise. -/
theorem tally1_mono (p : List Int × List Int) (t : Tk) : (∀ k, p.1.getD k 0 ≤ (tally1 p t).1.getD k 0) ∧ (∀ k, p.2.getD k 0 ≤ (tally1 p t).2.getD k 0) := by
  unfold tally1
  split
  · refine ⟨fun k => (incAt_get _ _ k).2, fun k => ?_⟩
    simp only
    split
    · exact Int.le_refl _
    · exact (incAt_get _ _ k).2
  · exact ⟨fun k => Int.le_refl _, fun k => Int.le_refl _⟩
theorem foldT_mono : ∀ (ts : List Tk) (p : List Int × List Int), (∀ k, p.1.getD k 0 ≤ (ts.foldl tally1 p).1.getD k 0) ∧ (∀ k, p.2.getD k 0 ≤ (ts.foldl tally1 p).2.getD k 0)
  | [], p => ⟨fun k => Int.le_refl _, fun k => Int.le_refl _⟩
  | t :: ts, p => by
    have h1 := tally1_mono p t
    have h2 := foldT_mono ts (tally1 p t)
    exact ⟨fun k => Int.le_trans (h1.1 k) (h2.1 k), fun k => Int.le_trans (h1.2 k) (h2.2 k)⟩
theorem incAt_at (L : List Int) (k : Nat) (hk : k < L.length) : (incAt L k).getD k 0 = L.getD k 0 + 1 := by
  unfold incAt
  rw [List.getD, List.getElem?_set, if_pos rfl, if_pos hk]; rfl
theorem foldT_has : ∀ (ts : List Tk) (p : List Int × List Int) (n : Nat), CntB p n → ∀ t ∈ ts, t.ok = true → (litSy t < 286 → 0 < (ts.foldl tally1 p).1.getD (litSy t) 0) ∧ (t.l ≠ 0 → distSy t < 30 → 0 < (ts.foldl tally1 p).2.getD (distSy t) 0)
  | [], p, n, _, t, h, _ => by cases h
  | x :: ts, p, n, hp, t, h, hok => by
    rcases List.mem_cons.1 h with rfl | h
    · have h2 := foldT_mono ts (tally1 p t)
      have hb := hp.2.2
      refine ⟨fun hs => ?_, fun hl hs => ?_⟩
      · have h3 := h2.1 (litSy t)
        have h4 : (tally1 p t).1.getD (litSy t) 0 = p.1.getD (litSy t) 0 + 1 := by
          unfold tally1; rw [if_pos hok]; exact incAt_at _ _ (by rw [hp.1]; exact hs)
        have := hb (litSy t)
        rw [List.foldl_cons]; omega
      · have h3 := h2.2 (distSy t)
        have h4 : (tally1 p t).2.getD (distSy t) 0 = p.2.getD (distSy t) 0 + 1 := by
          unfold tally1; rw [if_pos hok]; simp only [if_neg hl]; exact incAt_at _ _ (by rw [hp.2.1]; exact hs)
        have := hb (distSy t)
        rw [List.foldl_cons]; omega
    · exact foldT_has ts (tally1 p x) (n + 1) (hp.one x) t h hok
theorem tally_end (ts : List Tk) : 0 < (tally ts).1.getD 256 0 := by
  have h := (foldT_mono ts tally0).1 256
  have h0 : tally0.1.getD 256 0 = 1 := by
    show ((List.replicate 286 (0 : Int)).set 256 1).getD 256 0 = 1
    rw [List.getD, List.getElem?_set, if_pos rfl, if_pos (by rw [List.length_replicate]; omega)]; rfl
  unfold tally
  omega
theorem tally_b2 (ts : List Tk) : CntB (tally ts) ts.length := by
  have h := tally_b ts ts.length
  rwa [List.take_length] at h
theorem small_tally {L : List Int} {n : Nat} (hn : n ≤ 999999) (h : ∀ k, 0 ≤ L.getD k 0 ∧ L.getD k 0 ≤ (n : Int) + 1) : Small 1000000 L := fun z hz => by
  obtain ⟨q, hq, e⟩ := List.mem_iff_getElem.1 hz
  have h1 := h q
  have e2 : L.getD q 0 = z := by simp [List.getD, hq, e]
  rw [e2] at h1
  omega
theorem lensOk_tally (ts : List Tk) (hl : ts.length ≤ 999999) : LensOkP (tally ts).1 15 ∧ LensOkP (tally ts).2 15 := by
  have hb := tally_b2 ts
  refine ⟨⟨by rw [hb.1]; omega, by omega, small_tally hl (fun k => (hb.2.2 k).1), ?_⟩, ⟨by rw [hb.2.1]; omega, by omega, small_tally hl (fun k => ⟨(hb.2.2 k).2.1, by have := (hb.2.2 k).2.2; omega⟩), ?_⟩⟩
  · have := leaves_len (tally ts).1 0
    rw [hb.1] at this
    have e : (2 : Nat) ^ (15 : Int).toNat = 32768 := rfl
    rw [e]; omega
  · have := leaves_len (tally ts).2 0
    rw [hb.2.1] at this
    have e : (2 : Nat) ^ (15 : Int).toNat = 32768 := rfl
    rw [e]; omega
/-- The best codes of tokens may stand in a head, and have each token's words. -/
theorem best_head {ts : List Tk} {lit dist : List Int} (hl : ts.length ≤ 999999) (h1 : BestL 257 (tally ts).1 lit) (h2 : BestL 1 (tally ts).2 dist) :
    CodeOk lit ∧ CodeOk dist ∧ HasC lit 256 ∧ headB lit dist = true := by
  obtain ⟨hk1, hk2⟩ := lensOk_tally ts hl
  obtain ⟨a1, a2, a3, a4, a5⟩ := h1.facts hk1
  obtain ⟨b1, b2, b3, b4, b5⟩ := h2.facts hk2
  have hb := tally_b2 ts
  have he := a4 256 (tally_end ts)
  have hfull := full_of a1 he.1 he.2
  refine ⟨a1, b1, ⟨256, rfl, he.1, he.2⟩, ?_⟩
  unfold headB mayB
  have hd : (fullB dist || decide (kindA dist = 1)) = true := by
    rcases dist_of b1 with h | h
    · rw [h]; rfl
    · rw [h]; simp
  rw [hb.1] at a3
  rw [hb.2.1] at b3
  rw [hfull, hd, decide_eq_true he.2, decide_eq_true (show 257 ≤ lit.length ∧ lit.length ≤ 286 ∧ 1 ≤ dist.length ∧ dist.length ≤ 30 from ⟨a2, a3, b2, b3⟩)]
  rfl
theorem best_toks {ts : List Tk} {lit dist : List Int} (hl : ts.length ≤ 999999) (hwf : AllT ts) (hok : allOkB ts = true) (h1 : BestL 257 (tally ts).1 lit) (h2 : BestL 1 (tally ts).2 dist) : ∀ t ∈ ts, ∃ ws, TokW lit dist t ws := by
  intro t ht
  obtain ⟨hk1, hk2⟩ := lensOk_tally ts hl
  obtain ⟨a1, a2, a3, a4, a5⟩ := h1.facts hk1
  obtain ⟨b1, b2, b3, b4, b5⟩ := h2.facts hk2
  have ho := allOkB_mem hok t ht
  have hh := foldT_has ts tally0 0 tally0_b t ht ho
  have hlit : litSy t < 286 → HasC lit ((litSy t : Nat) : Int) := fun h => ⟨litSy t, rfl, (a4 _ (hh.1 h)).1, (a4 _ (hh.1 h)).2⟩
  have hdist : t.l ≠ 0 → distSy t < 30 → HasC dist ((distSy t : Nat) : Int) := fun h0 h => ⟨distSy t, rfl, (b4 _ (hh.2 h0 h)).1, (b4 _ (hh.2 h0 h)).2⟩
  rcases tok_shape (hwf t ht) ho with ⟨c, hc, rfl⟩ | ⟨j, u, hj, hu, rfl⟩ | ⟨i, v, j, u, hi, hv, hlv, hj, hu, rfl⟩
  · exact ⟨_, .one c (by omega) (by omega) (by simpa [litSy] using hlit (by simp [litSy]; omega))⟩
  · have hd : distSy ⟨258, ((db j + u : Nat) : Int), 0⟩ = j := by unfold distSy; rw [Int.toNat_natCast]; exact db_last hj hu
    have hs : litSy ⟨258, ((db j + u : Nat) : Int), 0⟩ = 285 := rfl
    rw [hd] at hdist
    rw [hs] at hlit
    exact ⟨_, .long j u hj hu (hlit (by omega)) (hdist (by show (258 : Int) ≠ 0; decide) hj)⟩
  · have h3 := lb_top i hi
    have hd : distSy ⟨((lb i + v : Nat) : Int), ((db j + u : Nat) : Int), 0⟩ = j := by unfold distSy; rw [Int.toNat_natCast]; exact db_last hj hu
    have hs : litSy ⟨((lb i + v : Nat) : Int), ((db j + u : Nat) : Int), 0⟩ = 257 + i := by
      unfold litSy
      rw [if_neg (by simp only; omega), if_neg (by simp only; omega), Int.toNat_natCast, lb_last hi hv]
    rw [hd] at hdist
    rw [hs] at hlit
    exact ⟨_, .copy i v j u hi hv hlv hj hu (hlit (by omega)) (hdist (by simp only; omega) hj)⟩
end Go.Proofs.YtfmjfgmbjdhogaaGreatDoor

namespace Go.Proofs.YtfmjfgmbjdhogaaGreatDoor
open Go.RowKit
set_option linter.unusedVariables false
set_option linter.unusedSimpArgs false

theorem emp_sa {w0 w : World} (hk : Kept NoB w0 w) (k : Nat) (he : k = w.heap.size) : IntSt w0 (w.alloc (.cells #[] 3)) (some ⟨k, 0, none⟩) 0 0 [] := by
  subst he; exact ⟨rfl, World.ownsRow_lit w #[] 0 (Nat.zero_le _) (Nat.zero_le _) rfl, hk.alloc _, fun k e => by have := hk.size; simp [Value.ownBlock] at e; omega⟩
/-- Numbers appended to an own row, in a region in its own order. -/
theorem wpList_intsA {ops : Array Oper} {rest : List Oper} {o : Oper} {a : Act} {w : World} {Q : Exit → Act → World → Prop} (hgd : o.guard = none) (s x : Operand)
    (ho : o.op = .call { callee := .builtin .append, args := #[s, x], argTypes := #[30, 30] })
    {w0 : World} {a1 : Option Addr} {l1 c1 : Nat} {zs : List Int} (hS : IntSt w0 w a1 l1 c1 zs) (hs : a.eval s = .slice a1 l1 c1)
    (ad : Addr) (m c : Nat) (news : List Int) (hx : a.eval x = .slice (some ad) m c) (hl : news.length = m) (hnews : ∀ j u, (news.map (Value.int .i64))[j]? = some u → w.cell? (ad.add j) = some u) (h63 : l1 + m ≤ 100000)
    (h : ∀ a2 c2 w', IntSt w0 w' a2 (l1 + m) c2 (zs ++ news) → Kept (OwnB (Value.slice a1 l1 c1)) w w' → wpList Tryz.prog ops Q rest (a.put o.dst (.slice a2 (l1 + m) c2)) w') : wpList Tryz.prog ops Q (o :: rest) a w := by
  obtain ⟨i0, hi, hz0, hz1, hz2⟩ := info_parts infoI
  refine wpList_app w hgd s x 30 ho 3 i0 (.int .i64 0) 1 8 (by kernel_rfl) hi hz0 hz1 hz2 rfl (by decide) _ l1 (zs.map (.int .i64)) hs hS.own ad m c (news.map (.int .i64)) hx (by rw [List.length_map, hl, Nat.mul_one]) hnews (fun u hu => by obtain ⟨y, _, rfl⟩ := List.mem_map.1 hu; rfl) (by unfold maxLen; omega) (by omega) ?_
  intro v' w' h2 h3 h4
  obtain ⟨a2, c2, rfl⟩ := own_shape2 h2
  refine h _ _ _ ⟨by rw [List.length_append, hS.len, hl], by rw [List.map_append]; exact h2, hS.kept.grown h3 (fun k hk e => by have := hS.fresh k e; omega), ?_⟩ ?_
  intro k hk
  rcases h4 k hk with h | h
  · exact hS.fresh k h
  · have := hS.kept.size; omega
  · exact (Kept.refl _ w).grown h3 (fun k hk e => e)
end Go.Proofs.YtfmjfgmbjdhogaaGreatDoor

namespace Go.Proofs.YtfmjfgmbjdhogaaGreatDoor
open Go.RowKit
set_option linter.unusedVariables false
set_option linter.unusedSimpArgs false

set_option maxRecDepth 20000 in
set_option maxHeartbeats 2000000 in
theorem grow_nil (n : Nat) (w : World) (hn : 1 ≤ n ∧ n ≤ 100000) :
    Calls Tryz.prog 172 #[.slice none 0 0, .int .i64 (n : Int)] w fun e w' => ∃ c, e = .returned (.slice (some ⟨w.heap.size, 0, none⟩) 0 c) ∧ IntSt w w' (some ⟨w.heap.size, 0, none⟩) 0 c [] := by
  obtain ⟨i0, hi, hz0, hz1, hz2⟩ := info_parts infoI
  have h1 : ¬ ((n : Int) < 0) := by omega
  have h2 : (0 : Int) < (n : Int) := by omega
  have hold : (Builtin.firstCells i0.size 0 (.slice none 0 0)).run Tryz.prog w.drew = .ok #[] w.drew := run_firstCells_none w.drew i0.size 0 0 0
  have hrz : ∀ ty, (Builtin.append_ #[30, 3] ty #[.slice none 0 0, .int .i64 (n : Int)]).run Tryz.prog w =
      .ok (.slice (some ⟨w.heap.size, 0, none⟩) n (grownCap w n 0 3)) (w.drew.alloc (.cells (([] : List Value).toArray ++ Builtin.zeroCells (Value.int .i64 0).cells n ++ Builtin.zeroCells (Value.int .i64 0).cells (grownCap w n 0 3 - n)) 3)) := fun ty => by
    have h := Lib.run_append_grow_zeros w 30 3 ty 3 i0 (.int .i64 0) .i64 .i64 Tryz.underlying30 rfl hi hz0 none 0 0 [] hold n (by omega) (by rw [hz1]; omega) (by omega) (by omega)
      (by rw [hz2]; omega)
      (by rw [Nat.zero_add]; exact growslice_fits (by omega) (by rw [hz2]; omega))
    rw [Nat.zero_add] at h
    exact h
  have hGn : n ≤ grownCap w n 0 3 := grownCap_ge w _ _ _
  have hGm : grownCap w n 0 3 ≤ maxLen := grownCap_le_maxLen w n 0 3 (by unfold maxLen; omega)
  obtain ⟨G, hG⟩ : ∃ G, G = grownCap w n 0 3 := ⟨_, rfl⟩
  rw [← hG] at hrz hGn hGm
  have hcz : ∀ k, (Builtin.zeroCells (Value.int .i64 0).cells k).size = k := fun k => by simp [Builtin.zeroCells, Value.cells]
  obtain ⟨cs, hcs⟩ : ∃ cs : Array Value, cs = ([] : List Value).toArray ++ Builtin.zeroCells (Value.int .i64 0).cells n ++ Builtin.zeroCells (Value.int .i64 0).cells (G - n) := ⟨_, rfl⟩
  have hsz : cs.size = G := by rw [hcs]; simp [hcz]; omega
  rw [← hcs] at hrz
  have hst : IntSt w (w.drew.alloc (.cells cs 3)) (some ⟨w.heap.size, 0, none⟩) 0 G [] := ⟨rfl, ⟨rfl, .inr ⟨w.heap.size, G, cs, rfl, Nat.zero_le _, by simpa using heap_alloc_new w.drew (.cells cs 3), Nat.zero_le _, hGm, by rw [hsz, Nat.mul_one], by simp⟩⟩, (Kept.drew (Kept.refl NoB w)).alloc _, fun k hk => by simp [Value.ownBlock] at hk; omega⟩
  have HSt := Lib.hid hst
  have g63 : (G : Int) ≤ 9223372036854775807 := by unfold maxLen at hGm; omega
  clear hold hG hcs hsz hst hGm hcz
  go_enter Tryz.func172, Tryz.ntmps172
  go_wp2_with (at_builtin; refine Lib.wpList_append_run _ rfl _ _ _ _ rfl _ _ rfl rfl _ _ (hrz _) ?_)
  all_goals (go_ret; exact ⟨G, rfl, HSt.out⟩)
set_option maxRecDepth 20000 in
set_option maxHeartbeats 4000000 in
theorem concat_any (H : Nat) (p1 : Addr) (c1 : Nat) (xs : List Int) (p2 : Addr) (c2 B : Nat) (ys : List Int) (w : World) (h0 : w.cell? ⟨H, 0, none⟩ = some (.slice (some p1) xs.length c1)) (h1 : w.cell? ⟨H, 1, none⟩ = some (.slice (some p2) ys.length c2))
    (hx : RdI w B (some p1) xs) (hy : RdI w B (some p2) ys) (hxl : 1 ≤ xs.length ∧ xs.length ≤ 1000) (hyl : ys.length ≤ 1000) :
    Calls Tryz.prog 148 #[.slice (some ⟨H, 0, none⟩) 2 2] w fun e w' => ∃ a c, e = .returned (.slice a (xs.length + ys.length) c) ∧ IntSt w w' a (xs.length + ys.length) c (xs ++ ys) := by
  have on : ∀ {w : World} {ad : Addr} {B : Nat} {zs : List Int}, RdI w B (some ad) zs → ∀ W, Kept NoB w W → ∀ j u, (zs.map (Value.int .i64))[j]? = some u → W.cell? (ad.add j) = some u := by
    intro w ad B zs hr W hk j u hu
    have hj : j < zs.length := by have := (List.getElem?_eq_some_iff.1 hu).1; simpa using this
    obtain ⟨g, off, he, _, hc⟩ := hr j hj
    cases he
    rw [addr_add, hk.cell hc, ← hu]
    simp [List.getD, hj]
  have hX := on hx; have hY := on hy
  obtain ⟨n, hn⟩ : ∃ n, n = xs.length := ⟨_, rfl⟩
  obtain ⟨m, hm⟩ : ∃ m, m = ys.length := ⟨_, rfl⟩
  rw [← hn] at h0 hxl ⊢
  rw [← hm] at h1 hyl ⊢
  have hC0 : ∀ W, Kept NoB w W → W.cell? ⟨H, 0, none⟩ = some (.slice (some p1) n c1) := fun W hk => hk.cell h0
  have hC1 : ∀ W, Kept NoB w W → W.cell? ⟨H, 1, none⟩ = some (.slice (some p2) m c2) := fun W hk => hk.cell h1
  have HC0 := Lib.hid hC0; have HC1 := Lib.hid hC1; have HX := Lib.hid hX; have HY := Lib.hid hY; have HN := Lib.hid hn; have HM := Lib.hid hm
  have hn1 := hxl.1
  have hn2 := hxl.2
  clear on hX hY hx hy hn hm hC0 hC1 hxl
  go_enter Tryz.func148, Tryz.ntmps148
  go_wp2_with fail
  go_loopw [11, 3, 5] (fun v11 v3 _ wr => ∃ i : Nat, v11 = .int .i64 (i : Int) ∧ i ≤ 2 ∧ v3 = .int .i64 ((if i = 0 then 0 else if i = 1 then n else n + m : Nat) : Int) ∧ w = wr) (fun v11 _ _ _ => 2 - (intOf v11).toNat)
  case atStart => exact ⟨0, rfl, by omega, rfl, rfl⟩
  case round =>
    obtain ⟨i, rfl, hi2, rfl, rfl⟩ := hrel
    rcases (show i = 0 ∨ i = 1 ∨ i = 2 by omega) with rfl | rfl | rfl
    · have hg0 : ¬ ((0 : Int) + (n : Int) < 0) := by omega
      have hg1 : ¬ ((n : Int) < 0) := by omega
      go_wp2
      go_roundw
      case rel => exact ⟨1, rfl, by omega, by simp⟩
      case measure => simp [intOf]
    · have hg1 : ¬ ((n : Int) + (m : Int) < 0) := by omega
      have hg2 : IntKind.i64.wrap ((n : Int) + (m : Int)) = ((n + m : Nat) : Int) := by rw [IntWalk.i64_in _ (by omega)]; omega
      have hg3 : ¬ (((n + m : Nat) : Int) < 0) := by omega
      go_wp2
      go_roundw
      case rel => exact ⟨2, rfl, by omega, by simp⟩
      case measure => simp [intOf]
    · obtain ⟨k, hk⟩ : ∃ k, k = n + m := ⟨_, rfl⟩
      rw [if_neg (by decide), if_neg (by decide), ← hk]
      have hgc := grow_nil k w (by omega)
      have HGc := Lib.hid hgc; have HK := Lib.hid hk
      clear hgc hk
      go_wp2_with fail
      with_reducible refine HGc.out.mono ?_
      rintro e w1 ⟨c, rfl, hst⟩
      obtain ⟨G, hG⟩ : ∃ G, G = w.heap.size := ⟨_, rfl⟩
      rw [← hG] at hst ⊢
      have HSt := Lib.hid hst
      clear hst hG HGc
      go_wp2_with fail
      go_loopw [27, 6, 8] (fun v27 v6 _ w2 => ∃ (i : Nat) (a : Option Addr) (c : Nat), v27 = .int .i64 (i : Int) ∧ i ≤ 2 ∧ v6 = .slice a (if i = 0 then 0 else if i = 1 then n else n + m) c ∧ Hid (IntSt w w2 a (if i = 0 then 0 else if i = 1 then n else n + m) c (if i = 0 then [] else if i = 1 then xs else xs ++ ys))) (fun v27 _ _ _ => 2 - (intOf v27).toNat)
      case atStart => exact ⟨0, _, c, rfl, by omega, rfl, HSt⟩
      case round =>
        clear HSt
        obtain ⟨i, a, c, rfl, hi2, rfl, HS⟩ := hrel
        rcases (show i = 0 ∨ i = 1 ∨ i = 2 by omega) with rfl | rfl | rfl
        · have hs := HS.out
          rw [if_pos rfl, if_pos rfl] at hs
          have x0 := HC0.out wr hs.kept
          have hx := HX.out wr hs.kept
          have HS0 := Lib.hid hs; have HXx := Lib.hid hx
          clear hs HS hx
          rw [if_pos rfl]
          go_wp2_with (at_builtin; refine wpList_intsA rfl _ _ rfl HS0.out rfl p1 n c1 xs rfl HN.out.symm HXx.out (by omega) ?_)
          intro a2 c3 w3 hs3 hk3
          have HS3 := Lib.hid hs3
          clear hs3 hk3
          go_wp2
          go_roundw
          case rel => exact ⟨1, a2, c3, rfl, by omega, rfl, HS3⟩
          case measure => simp [intOf]
        · have hs := HS.out
          rw [if_neg (by decide), if_pos rfl, if_neg (by decide), if_pos rfl] at hs
          have x0 := HC1.out wr hs.kept
          have hx := HY.out wr hs.kept
          have HS0 := Lib.hid hs; have HXx := Lib.hid hx
          clear hs HS hx
          rw [if_neg (by decide), if_pos rfl]
          go_wp2_with (at_builtin; refine wpList_intsA rfl _ _ rfl HS0.out rfl p2 m c2 ys rfl HM.out.symm HXx.out (by omega) ?_)
          intro a2 c3 w3 hs3 hk3
          have HS3 := Lib.hid hs3
          clear hs3 hk3
          go_wp2
          go_roundw
          case rel => exact ⟨2, a2, c3, rfl, by omega, rfl, HS3⟩
          case measure => simp [intOf]
        · have hs := HS.out
          rw [if_neg (by decide), if_neg (by decide), if_neg (by decide), if_neg (by decide)] at hs
          rw [if_neg (by decide), if_neg (by decide)]
          have HS0 := Lib.hid hs
          clear hs HS
          go_wp2
          go_ret
          exact ⟨a, c, rfl, HS0.out⟩
end Go.Proofs.YtfmjfgmbjdhogaaGreatDoor

namespace Go.Proofs.YtfmjfgmbjdhogaaGreatDoor
open Go.RowKit
set_option linter.unusedVariables false
set_option linter.unusedSimpArgs false

theorem may_all {ls : List Int} (h : fullB ls = true ∨ kindA ls = 1) : Small 15 ls ∧ ls.length ≤ 320 := by
  have : MayL ls := by
    rcases h with h | h
    · exact full_may h
    · apply Classical.byContradiction
      intro hn
      have := kindA_bad hn
      rw [this] at h
      exact absurd h (by decide)
  exact ⟨this.small, this.len⟩
theorem small_getD2 {Z : List Int} {m : Nat} (h : Small m Z) (i : Nat) : 0 ≤ Z.getD i 0 ∧ Z.getD i 0 ≤ m := by
  by_cases hi : i < Z.length
  · have : Z.getD i 0 = Z[i] := by simp [List.getD, hi]
    rw [this]; exact h _ (List.getElem_mem hi)
  · have : Z.getD i 0 = 0 := by simp [List.getD, List.getElem?_eq_none (Nat.le_of_not_lt hi)]
    omega
/-- An own row of another type is no block of a writer's. -/
theorem row_off {w : World} {e z n g c R : Nat} {xs : List Value} {T : TypeId} {ao : Option Addr} {cap : Nat} {bs : List Int} {s : Nat} (ho : w.ownsRow 0 e z (.slice (some ⟨g, 0, none⟩) n c) n xs) (hw : Wtr w R ao cap bs s) (h1 : 96 ≠ e) (h2 : e ≠ 5) : ¬ OrB (OneB R) (OwnB (.slice ao bs.length cap)) g := by
  rcases ho.2 with ⟨hv, _⟩ | ⟨g', cc, cur, hv, _, hgg, _⟩
  · simp at hv
  · simp at hv
    obtain ⟨rfl, rfl⟩ := hv
    rintro (h | h)
    · unfold OneB at h
      have hR := hw.1
      rw [← h, hgg] at hR
      simp at hR
      exact h1 hR.2.symm
    · exact row_ne hw.2.1 hgg h2 g h rfl
theorem head_small {lit dist : List Int} (h : headB lit dist = true) : (257 ≤ lit.length ∧ lit.length ≤ 286 ∧ 1 ≤ dist.length ∧ dist.length ≤ 30) ∧ Small 15 lit ∧ Small 15 dist ∧ mayB lit dist = true := by
  unfold headB at h
  obtain ⟨h1, h2⟩ := Bool.and_eq_true_iff.1 h
  have h3 := h2
  unfold mayB at h3
  obtain ⟨h4, h5⟩ := Bool.and_eq_true_iff.1 h3
  obtain ⟨_, h6⟩ := Bool.and_eq_true_iff.1 h4
  refine ⟨of_decide_eq_true h1, (may_all (.inl h6)).1, (may_all ?_).1, h2⟩
  rcases Bool.or_eq_true_iff.1 h5 with h | h
  · exact .inl h
  · exact .inr (of_decide_eq_true h)
end Go.Proofs.YtfmjfgmbjdhogaaGreatDoor

namespace Go.Proofs.YtfmjfgmbjdhogaaGreatDoor
open Go.RowKit
set_option linter.unusedVariables false
set_option linter.unusedSimpArgs false
set_option maxRecDepth 20000

def lenOfT (v : Value) : Nat := match v with | .slice _ m _ => m | _ => 0
set_option maxHeartbeats 4000000 in
theorem trimmed_any (a : Option Addr) (c B : Nat) (zs : List Int) (least : Nat) (w : World) (hr : RdI w B a zs) (hl : least ≤ zs.length) (h1 : 1 ≤ least) (hc : zs.length ≤ c) (hcl : c ≤ maxLen) :
    Calls Tryz.prog 145 #[.slice a zs.length c, .int .i64 (least : Int)] w fun e w' => ∃ n, e = .returned (.slice a n c) ∧ TrimP least zs n ∧ Kept NoB w w' := by
  unfold maxLen at hcl
  obtain ⟨g, o, rfl, _, _⟩ := hr 0 (by omega)
  have HR := Lib.hid hr
  obtain ⟨N, hN⟩ : ∃ N, N = zs.length := ⟨_, rfl⟩
  have HN := Lib.hid hN
  rw [← hN] at hl hc ⊢
  clear hr hN
  have HT0 : Hid (TrimW least zs N) := Lib.hid ⟨hl, by rw [HN.out]; exact Nat.le_refl _, fun i h1 h2 => by have := HN.out; omega⟩
  go_enter Tryz.func145, Tryz.ntmps145
  go_wp2_with fail
  go_loopw [0] (fun l wr => ∃ n, l = .slice (some ⟨g, o, none⟩) n c ∧ n ≤ N ∧ Hid (TrimW least zs n) ∧ Hid (Kept NoB w wr)) (fun l _ => lenOfT l)
  case atStart => exact ⟨N, rfl, Nat.le_refl _, HT0, Lib.hid (Kept.refl _ _)⟩
  case round =>
    obtain ⟨n, rfl, hn, HT, HK⟩ := hrel
    by_cases hlt : least < n
    · have hgt : (least : Int) < (n : Int) := by omega
      obtain ⟨m, hm⟩ : ∃ m, m + 1 = n := ⟨n - 1, by omega⟩
      have hw : IntKind.i64.wrap ((n : Int) - 1) = (m : Int) := by rw [IntWalk.i64_in _ (by omega)]; omega
      have hmn : m < n := by omega
      have hmc : m ≤ c := by omega
      obtain ⟨g', o', e, _, hcell⟩ := (HR.out.keptNo HK.out) m (by have := HN.out; omega)
      cases e
      obtain ⟨z, hz⟩ : ∃ z, z = zs.getD m 0 := ⟨_, rfl⟩
      rw [← hz] at hcell
      have HZ := Lib.hid hz; have HM := Lib.hid hm
      clear hz hm
      by_cases hz0 : z = 0
      · subst hz0
        go_wp2
        go_roundw
        case rel =>
          refine ⟨m, rfl, by omega, Lib.hid ⟨by have := HM.out; omega, by have := HT.out.hi; omega, fun i h1 h2 => ?_⟩, HK⟩
          by_cases hi : i = m
          · subst hi; exact HZ.out.symm
          · exact HT.out.tail i (by have := HM.out; omega) h2
        case measure => simp [lenOfT]; omega
      · have hzb : (z == 0) = false := by simpa using hz0
        go_wp2
        go_ret
        exact ⟨n, rfl, ⟨HT.out, .inr (by rw [show n - 1 = m by have := HM.out; omega, ← HZ.out]; exact hz0)⟩, HK.out⟩
    · have hgt : ¬ (least : Int) < (n : Int) := by omega
      go_wp2
      go_ret
      exact ⟨n, rfl, ⟨HT.out, .inl (by have := HT.out.lo; omega)⟩, HK.out⟩
end Go.Proofs.YtfmjfgmbjdhogaaGreatDoor
