/-
  The weights of runs, and the code that they have, on paper.
  The best codes of what tokens tell, as many lengths as a head must tell, on paper.
  What layer 1's statements ask of themselves first: a few bits, put and taken.
  What the document fixes of stage 10: All of nothing at level 0, Most.
  The document's symbols: SymLen, SymDist, LenSym, DistSym.
  A slice of calls (three numbers each) that came in; what was put is there to be taken.
  CRC-32 in numbers: one step, eight, a byte, a row of bytes; sums; no step takes a number to nought but nought. No Go in sight.
  Strings of numbers; the document's own Rev.
  The table of the check, and a row of bytes through it.
  What layer 2's statements ask of themselves first: the check of a few bytes.
  The document's own check, bit by bit.
  A row of rows of bytes that came in.
  CrcParts: however bytes are parted, their check is the same.
  Slices of bytes as strings; the check of one part and of two.
  Two writers of bits, each with a row of its own; what is put by one leaves the other as it was.
-/
import Derived.Test.YtdpegahcgaicnaaGreatDoorMh23
import Derived.Laws.BytesArg
import Derived.Deep.DeepCutAuto
import Derived.Test.YtdpegahcgaicnaaGreatDoorRows
import Derived.BigRegion
import Derived.Deep.RegionWith
import Derived.Lib.SlBytesConst
import Derived.Laws.AppendOwnNone
namespace Go.Proofs.YtdpegahcgaicnaaGreatDoor
open Go.RowKit
set_option linter.unusedVariables false
set_option linter.unusedSimpArgs false

/-- How often each symbol stands. -/
def cntR : List (Int × Int) → List Int → List Int
  | [], W => W
  | y :: r, W => cntR r (W.set y.1.toNat (W.getD y.1.toNat 0 + 1))
theorem cntR_snoc : ∀ (rs : List (Int × Int)) (y : Int × Int) (W : List Int), cntR (rs ++ [y]) W = (cntR rs W).set y.1.toNat ((cntR rs W).getD y.1.toNat 0 + 1)
  | [], y, W => rfl
  | z :: r, y, W => by rw [List.cons_append, cntR, cntR, cntR_snoc r y]
theorem cntR_len : ∀ (rs : List (Int × Int)) (W : List Int), (cntR rs W).length = W.length
  | [], W => rfl
  | z :: r, W => by rw [cntR, cntR_len r, List.length_set]
def cnt19 (rs : List (Int × Int)) : List Int := cntR rs (List.replicate 19 0)
theorem cnt19_len (rs : List (Int × Int)) : (cnt19 rs).length = 19 := by unfold cnt19; rw [cntR_len, List.length_replicate]
theorem cnt19_snoc (rs : List (Int × Int)) (y : Int × Int) : cnt19 (rs ++ [y]) = (cnt19 rs).set y.1.toNat ((cnt19 rs).getD y.1.toNat 0 + 1) := cntR_snoc _ _ _
theorem cntR_mono : ∀ (rs : List (Int × Int)) (W : List Int) (j : Nat), W.getD j 0 ≤ (cntR rs W).getD j 0
  | [], W, j => Int.le_refl _
  | z :: r, W, j => by
    rw [cntR]
    refine Int.le_trans ?_ (cntR_mono r _ j)
    by_cases h : z.1.toNat < W.length
    · rw [getD_setH _ _ _ _ h]; split
      · rename_i e; rw [e]; omega
      · exact Int.le_refl _
    · rw [List.set_eq_of_length_le (by omega)]; exact Int.le_refl _
theorem cntR_pos : ∀ (rs : List (Int × Int)) (W : List Int), (∀ j, 0 ≤ W.getD j 0) → ∀ y ∈ rs, y.1.toNat < W.length → 0 < (cntR rs W).getD y.1.toNat 0
  | [], W, h0, y, hy, hl => absurd hy (by simp)
  | z :: r, W, h0, y, hy, hl => by
    have h0' : ∀ j, 0 ≤ (W.set z.1.toNat (W.getD z.1.toNat 0 + 1)).getD j 0 := fun j => by
      by_cases h : z.1.toNat < W.length
      · rw [getD_setH _ _ _ _ h]; split
        · have := h0 z.1.toNat; omega
        · exact h0 j
      · rw [List.set_eq_of_length_le (by omega)]; exact h0 j
    rw [cntR]
    rcases List.mem_cons.1 hy with e | h
    · subst e
      have := cntR_mono r (W.set y.1.toNat (W.getD y.1.toNat 0 + 1)) y.1.toNat
      rw [getD_setH _ _ _ _ hl, if_pos rfl] at this
      have := h0 y.1.toNat
      omega
    · exact cntR_pos r _ h0' y h (by rw [List.length_set]; exact hl)
theorem cntR_small : ∀ (rs : List (Int × Int)) (W : List Int) (m : Int), Small m W → Small (m + rs.length) (cntR rs W)
  | [], W, m, h => by simpa [cntR] using h
  | z :: r, W, m, h => by
    rw [cntR]
    have hw : Small (m + 1) (W.set z.1.toNat (W.getD z.1.toNat 0 + 1)) := fun b hb => by
      rcases List.mem_or_eq_of_mem_set hb with h1 | h1
      · have := h b h1; omega
      · by_cases hl : z.1.toNat < W.length
        · have e : W.getD z.1.toNat 0 = W[z.1.toNat] := by simp [List.getD, hl]
          have := h _ (List.getElem_mem hl)
          rw [h1, e]; omega
        · have e : W.getD z.1.toNat 0 = 0 := by simp [List.getD, List.getElem?_eq_none (Nat.le_of_not_lt hl)]
          rw [List.set_eq_of_length_le (by omega)] at hb
          have := h b hb; omega
    have := cntR_small r _ (m + 1) hw
    rw [List.length_cons]
    have e : m + 1 + (r.length : Int) = m + ((r.length + 1 : Nat) : Int) := by push_cast; omega
    rw [← e]; exact this
theorem cnt19_small (rs : List (Int × Int)) : Small rs.length (cnt19 rs) := by
  have := cntR_small rs (List.replicate 19 0) 0 (fun b hb => by rw [List.eq_of_mem_replicate hb]; decide)
  rw [Int.zero_add] at this
  exact this
theorem cnt19_pos (rs : List (Int × Int)) (y : Int × Int) (hy : y ∈ rs) (h : y.1.toNat < 19) : 0 < (cnt19 rs).getD y.1.toNat 0 :=
  cntR_pos rs _ (fun j => by rw [rep0]; exact Int.le_refl _) y hy (by rw [List.length_replicate]; exact h)
/-- What runs that are told are. -/
theorem runAll_ok (n : Int) : ∀ (rs : List (Int × Int)) (l F : List Int), runAll n l rs = some F → ∀ y ∈ rs, 0 ≤ y.1 ∧ y.1 ≤ 18 ∧ 0 ≤ y.2 ∧ y.2 ≤ spanM y.1
  | [], l, F, h, y, hy => absurd hy (by simp)
  | (s, x) :: r, l, F, h, y, hy => by
    rw [runAll] at h
    split at h
    · rename_i hok
      rcases List.mem_cons.1 hy with e | hm
      · subst e; exact ⟨hok.1.1, hok.1.2.1, hok.1.2.2.1, hok.1.2.2.2.1⟩
      · exact runAll_ok n r _ F h y hm
    · cases h
theorem ref_lens7 (ws : List Int) (lv : List Lf) (hok : LensOkP ws 7) (hs : SrtP lv (leavesL 0 ws)) : refS (lensOf lv ws.length 7) = 0 := by
  have hF := lensF ws 7 lv hok hs
  have e15 : (7 : Int).toNat = 7 := rfl
  rw [e15] at hF
  unfold refS
  rw [if_neg]
  by_cases n0 : lv.length = 0
  · have e : lensOf lv ws.length 7 = List.replicate ws.length 0 := by unfold lensOf; rw [if_pos n0]
    rw [e]
    unfold kindS
    rw [if_pos (by rw [count_rep0]; simp)]
    omega
  · by_cases n1 : lv.length = 1
    · have e : lensOf lv ws.length 7 = (List.replicate ws.length 0).set (lv.getD 0 (0, 0)).1.toNat 1 := by unfold lensOf; rw [if_neg n0, if_pos n1]
      have hm : lv.getD 0 (0, 0) ∈ lv := getD_mem lv 0 (by omega)
      obtain ⟨_, q, hq, hql⟩ := leaf_place hok.small hs _ hm
      have hc := count_set ws.length q hql
      rw [e, hq, Int.toNat_natCast]
      unfold kindS
      rw [List.length_set, List.length_replicate, if_neg (by omega), if_pos ⟨by omega, hc.2⟩]
      omega
    · have hk := hF.kraft
      rw [if_neg n0, if_neg n1] at hk
      unfold kindS
      rw [hk]
      split
      · omega
      · split
        · omega
        · simp

/-- The code of weights, one of them above nought, by seven bits. -/
theorem code_of (A : List Int) (lv : List Lf) (hok : LensOkP A 7) (hs : SrtP lv (leavesL 0 A)) (p : Nat) (hp : p < A.length) (h0 : 0 < A.getD p 0) :
    (lensOf lv A.length 7).length = A.length ∧ Small 7 (lensOf lv A.length 7) ∧ fullB (lensOf lv A.length 7) = true ∧ ∀ q, q < A.length → (0 < A.getD q 0 ↔ 0 < (lensOf lv A.length 7).getD q 0) := by
  have hF := lensF A 7 lv hok hs
  have e7 : (7 : Int).toNat = 7 := rfl
  have hr := ref_lens7 A lv hok hs
  rw [e7] at hF
  obtain ⟨Z, hZ⟩ : ∃ Z, Z = lensOf lv A.length 7 := ⟨_, rfl⟩
  rw [← hZ] at hF hr ⊢
  have hsm : Small 7 Z := fun z hz => by
    obtain ⟨q, hq, e⟩ := List.mem_iff_getElem.1 hz
    have h := hF.bd q (by rw [← hF.len]; exact hq)
    have e2 : Z.getD q 0 = z := by simp [List.getD, hq, e]
    rw [e2] at h
    omega
  refine ⟨hF.len, hsm, ?_, hF.pos⟩
  have hz := (hF.pos p hp).1 h0
  have hzl : p < Z.length := by rw [hF.len]; exact hp
  have hn1 : kindS Z ≠ 1 := by
    unfold kindS
    have hc : Z.length ≠ Z.count 0 := fun e => by
      have hall := List.count_eq_length.1 e.symm
      have e2 : Z.getD p 0 = Z[p] := by simp [List.getD, hzl]
      have := hall _ (List.getElem_mem hzl)
      rw [e2, ← this] at hz
      omega
    rw [if_neg hc]
    split
    · decide
    · split
      · decide
      · split <;> decide
  unfold fullB kindA
  have hlen := hok.len
  rw [if_pos ⟨by rw [hF.len]; exact hlen, small7_15 hsm⟩]
  unfold refS at hr
  rcases kindS_of Z with k | k | k | k | k <;> simp [k] at hr hn1 ⊢
end Go.Proofs.YtdpegahcgaicnaaGreatDoor

namespace Go.Proofs.YtdpegahcgaicnaaGreatDoor
open Go.RowKit
set_option linter.unusedVariables false
set_option linter.unusedSimpArgs false

/-- zs is its first n and noughts. -/
structure TrimP (least : Nat) (zs : List Int) (n : Nat) : Prop where
  lo : least ≤ n
  hi : n ≤ zs.length
  tail : ∀ i, n ≤ i → i < zs.length → zs.getD i 0 = 0
theorem TrimP.eq {least n : Nat} {zs : List Int} (h : TrimP least zs n) : zs = zs.take n ++ List.replicate (zs.length - n) 0 := by
  apply List.ext_getElem?
  intro i
  by_cases h1 : i < n
  · rw [List.getElem?_append_left (by rw [List.length_take]; have := h.hi; omega), List.getElem?_take, if_pos h1]
  · rw [List.getElem?_append_right (by rw [List.length_take]; omega), List.getElem?_replicate, List.length_take]
    by_cases h2 : i < zs.length
    · have := h.tail i (by omega) h2
      rw [List.getD, List.getElem?_eq_getElem h2, Option.getD_some] at this
      have hi := h.hi
      rw [List.getElem?_eq_getElem h2, this, if_pos (by omega)]
    · have hi := h.hi
      rw [List.getElem?_eq_none (by omega), if_neg (by omega)]
theorem tail_kind (k : Nat) (L : List Int) : kindS (L ++ List.replicate k 0) = kindS L := by
  have h0 : (L ++ List.replicate k 0).count 0 = L.count 0 + k := by rw [List.count_append, count_rep0]
  have h1 : (L ++ List.replicate k 0).count 1 = L.count 1 := by
    rw [List.count_append, List.count_replicate]; simp
  have hk : kraftL (L ++ List.replicate k 0) = kraftL L := by rw [kraft_append, kraft_zero]; omega
  have hl : (L ++ List.replicate k 0).length = L.length + k := by simp
  unfold kindS
  rw [h0, h1, hk, hl]
  have e1 : (L.length + k = L.count 0 + k) = (L.length = L.count 0) := by apply propext; omega
  have e2 : (L.length + k = L.count 0 + k + 1 ∧ L.count 1 = 1) = (L.length = L.count 0 + 1 ∧ L.count 1 = 1) := by apply propext; omega
  simp only [e1, e2]
theorem TrimP.kind {least n : Nat} {zs : List Int} (h : TrimP least zs n) : kindS (zs.take n) = kindS zs := by
  conv => rhs; rw [h.eq]
  rw [tail_kind]
theorem TrimP.get {least n : Nat} {zs : List Int} (h : TrimP least zs n) (i : Nat) (hi : 0 < zs.getD i 0) : i < n ∧ (zs.take n).getD i 0 = zs.getD i 0 := by
  have hl : i < zs.length := by
    apply Classical.byContradiction; intro hn
    rw [List.getD, List.getElem?_eq_none (by omega)] at hi; simp at hi
  have hn : i < n := by
    apply Classical.byContradiction; intro hn
    have := h.tail i (by omega) hl
    omega
  refine ⟨hn, ?_⟩
  rw [List.getD, List.getD, List.getElem?_take, if_pos hn]
theorem TrimP.len {least n : Nat} {zs : List Int} (h : TrimP least zs n) : (zs.take n).length = n := by
  rw [List.length_take]; have := h.hi; omega
theorem kraft_le_tail (k : Nat) : ∀ (A L : List Int), costL A (L ++ List.replicate k 0) = costL A L
  | [], L => by cases L <;> cases k <;> simp [costL, List.replicate_succ]
  | a :: A, [] => by
    rw [List.nil_append]
    cases k with
    | zero => rfl
    | succ k =>
      rw [List.replicate_succ, costL]
      have := kraft_le_tail k A []
      rw [List.nil_append] at this
      rw [this]
      cases A <;> simp [costL]
  | a :: A, z :: L => by
    rw [List.cons_append, costL, costL, kraft_le_tail k A L]
/-- The best lengths for weights. -/
def BestL (least : Nat) (ws zs : List Int) : Prop := ∃ lv n, SrtP lv (leavesL 0 ws) ∧ TrimP least (lensOf lv ws.length 15) n ∧ zs = (lensOf lv ws.length 15).take n
theorem BestL.facts {least : Nat} {ws zs : List Int} (h : BestL least ws zs) (hok : LensOkP ws 15) :
    CodeOk zs ∧ least ≤ zs.length ∧ zs.length ≤ ws.length ∧ (∀ k, 0 < ws.getD k 0 → k < zs.length ∧ 0 < zs.getD k 0) ∧ ∃ lv, SrtP lv (leavesL 0 ws) ∧ costL ws zs = leastL (lv.map (·.2)) 15 := by
  obtain ⟨lv, n, hs, ht, rfl⟩ := h
  have hF := lensF ws 15 lv hok hs
  have e15 : (15 : Int).toNat = 15 := rfl
  rw [e15] at hF
  have hr := ref_lens ws lv hok hs
  have hsm : Small 15 (lensOf lv ws.length 15) := fun z hz => by
    obtain ⟨q, hq, e⟩ := List.mem_iff_getElem.1 hz
    have h := hF.bd q (by rw [← hF.len]; exact hq)
    have e2 : (lensOf lv ws.length 15).getD q 0 = z := by simp [List.getD, hq, e]
    rw [e2] at h
    exact h
  refine ⟨⟨?_, fun z hz => hsm z (List.mem_of_mem_take hz), ?_⟩, ?_, ?_, ?_, ?_⟩
  · rw [ht.len]; have := ht.hi; have := hF.len; have := hok.len; omega
  · unfold refS at hr ⊢
    rw [ht.kind]; exact hr
  · rw [ht.len]; exact ht.lo
  · rw [ht.len]; have := ht.hi; have := hF.len; omega
  · intro k hk
    have hkl : k < ws.length := by
      apply Classical.byContradiction; intro hn
      rw [List.getD, List.getElem?_eq_none (by omega)] at hk; simp at hk
    have h1 := (hF.pos k hkl).1 hk
    have h2 := ht.get k h1
    rw [ht.len, h2.2]
    exact ⟨h2.1, h1⟩
  · have hc := hF.cost
    rw [ht.eq, kraft_le_tail] at hc
    exact ⟨lv, hs, hc⟩
/-- A row with a code above 0 in it is whole or a lone code. -/
theorem full_of {zs : List Int} (h : CodeOk zs) {p : Nat} (hp : p < zs.length) (hz : 0 < zs.getD p 0) : fullB zs = true := by
  obtain ⟨h1, h2, hr⟩ := h
  have hn1 : kindS zs ≠ 1 := by
    unfold kindS
    have hc : zs.length ≠ zs.count 0 := fun e => by
      have hall := List.count_eq_length.1 e.symm
      have e2 : zs.getD p 0 = zs[p] := by simp [List.getD, hp]
      have := hall _ (List.getElem_mem hp)
      rw [e2, ← this] at hz
      omega
    rw [if_neg hc]
    split
    · decide
    · split
      · decide
      · split <;> decide
  unfold fullB kindA
  rw [if_pos ⟨h1, h2⟩]
  unfold refS at hr
  rcases kindS_of zs with k | k | k | k | k <;> simp [k] at hr hn1 ⊢
theorem dist_of {zs : List Int} (h : CodeOk zs) : fullB zs = true ∨ kindA zs = 1 := by
  obtain ⟨h1, h2, hr⟩ := h
  unfold fullB kindA
  rw [if_pos ⟨h1, h2⟩]
  unfold refS at hr
  rcases kindS_of zs with k | k | k | k | k <;> simp [k] at hr ⊢
/-- Counts only rise. -/
theorem tally1_mono (p : List Int × List Int) (t : Tk) : (∀ k, p.1.getD k 0 ≤ (tally1 p t).1.getD k 0) ∧ (∀ k, p.2.getD k 0 ≤ (tally1 p t).2.getD k 0) := by
  unfold tally1
  split
  · refine ⟨fun k => (incAt_get _ _ k).2, fun k => ?_⟩
    simp only
    split
    · exact Int.le_refl _
    · exact (incAt_get _ _ k).2
  · exact ⟨fun k => Int.le_refl _, fun k => Int.le_refl _⟩
theorem foldT_mono : ∀ (ts : List Tk) (p : List Int × List Int), (∀ k, p.1.getD k 0 ≤ (ts.foldl tally1 p).1.getD k 0) ∧ (∀ k, p.2.getD k 0 ≤ (ts.foldl tally1 p).2.getD k 0)
  | [], p => ⟨fun k => Int.le_refl _, fun k => Int.le_refl _⟩
  | t :: ts, p => by
    have h1 := tally1_mono p t
    have h2 := foldT_mono ts (tally1 p t)
    exact ⟨fun k => Int.le_trans (h1.1 k) (h2.1 k), fun k => Int.le_trans (h1.2 k) (h2.2 k)⟩
theorem incAt_at (L : List Int) (k : Nat) (hk : k < L.length) : (incAt L k).getD k 0 = L.getD k 0 + 1 := by
  unfold incAt
  rw [List.getD, List.getElem?_set, if_pos rfl, if_pos hk]; rfl
theorem foldT_has : ∀ (ts : List Tk) (p : List Int × List Int) (n : Nat), CntB p n → ∀ t ∈ ts, t.ok = true → (litSy t < 286 → 0 < (ts.foldl tally1 p).1.getD (litSy t) 0) ∧ (t.l ≠ 0 → distSy t < 30 → 0 < (ts.foldl tally1 p).2.getD (distSy t) 0)
  | [], p, n, _, t, h, _ => by cases h
  | x :: ts, p, n, hp, t, h, hok => by
    rcases List.mem_cons.1 h with rfl | h
    · have h2 := foldT_mono ts (tally1 p t)
      have hb := hp.2.2
      refine ⟨fun hs => ?_, fun hl hs => ?_⟩
      · have h3 := h2.1 (litSy t)
        have h4 : (tally1 p t).1.getD (litSy t) 0 = p.1.getD (litSy t) 0 + 1 := by
          unfold tally1; rw [if_pos hok]; exact incAt_at _ _ (by rw [hp.1]; exact hs)
        have := hb (litSy t)
        rw [List.foldl_cons]; omega
      · have h3 := h2.2 (distSy t)
        have h4 : (tally1 p t).2.getD (distSy t) 0 = p.2.getD (distSy t) 0 + 1 := by
          unfold tally1; rw [if_pos hok]; simp only [if_neg hl]; exact incAt_at _ _ (by rw [hp.2.1]; exact hs)
        have := hb (distSy t)
        rw [List.foldl_cons]; omega
    · exact foldT_has ts (tally1 p x) (n + 1) (hp.one x) t h hok
theorem tally_end (ts : List Tk) : 0 < (tally ts).1.getD 256 0 := by
  have h := (foldT_mono ts tally0).1 256
  have h0 : tally0.1.getD 256 0 = 1 := by
    show ((List.replicate 286 (0 : Int)).set 256 1).getD 256 0 = 1
    rw [List.getD, List.getElem?_set, if_pos rfl, if_pos (by rw [List.length_replicate]; omega)]; rfl
  unfold tally
  omega
theorem tally_b2 (ts : List Tk) : CntB (tally ts) ts.length := by
  have h := tally_b ts ts.length
  rwa [List.take_length] at h
theorem small_tally {L : List Int} {n : Nat} (hn : n ≤ 999999) (h : ∀ k, 0 ≤ L.getD k 0 ∧ L.getD k 0 ≤ (n : Int) + 1) : Small 1000000 L := fun z hz => by
  obtain ⟨q, hq, e⟩ := List.mem_iff_getElem.1 hz
  have h1 := h q
  have e2 : L.getD q 0 = z := by simp [List.getD, hq, e]
  rw [e2] at h1
  omega
theorem lensOk_tally (ts : List Tk) (hl : ts.length ≤ 999999) : LensOkP (tally ts).1 15 ∧ LensOkP (tally ts).2 15 := by
  have hb := tally_b2 ts
  refine ⟨⟨by rw [hb.1]; omega, by omega, small_tally hl (fun k => (hb.2.2 k).1), ?_⟩, ⟨by rw [hb.2.1]; omega, by omega, small_tally hl (fun k => ⟨(hb.2.2 k).2.1, by have := (hb.2.2 k).2.2; omega⟩), ?_⟩⟩
  · have := leaves_len (tally ts).1 0
    rw [hb.1] at this
    have e : (2 : Nat) ^ (15 : Int).toNat = 32768 := rfl
    rw [e]; omega
  · have := leaves_len (tally ts).2 0
    rw [hb.2.1] at this
    have e : (2 : Nat) ^ (15 : Int).toNat = 32768 := rfl
    rw [e]; omega
/-- The best codes of tokens may stand in a head, and have each token's words. -/
theorem best_head {ts : List Tk} {lit dist : List Int} (hl : ts.length ≤ 999999) (h1 : BestL 257 (tally ts).1 lit) (h2 : BestL 1 (tally ts).2 dist) :
    CodeOk lit ∧ CodeOk dist ∧ HasC lit 256 ∧ headB lit dist = true := by
  obtain ⟨hk1, hk2⟩ := lensOk_tally ts hl
  obtain ⟨a1, a2, a3, a4, a5⟩ := h1.facts hk1
  obtain ⟨b1, b2, b3, b4, b5⟩ := h2.facts hk2
  have hb := tally_b2 ts
  have he := a4 256 (tally_end ts)
  have hfull := full_of a1 he.1 he.2
  refine ⟨a1, b1, ⟨256, rfl, he.1, he.2⟩, ?_⟩
  unfold headB mayB
  have hd : (fullB dist || decide (kindA dist = 1)) = true := by
    rcases dist_of b1 with h | h
    · rw [h]; rfl
    · rw [h]; simp
  rw [hb.1] at a3
  rw [hb.2.1] at b3
  rw [hfull, hd, decide_eq_true he.2, decide_eq_true (show 257 ≤ lit.length ∧ lit.length ≤ 286 ∧ 1 ≤ dist.length ∧ dist.length ≤ 30 from ⟨a2, a3, b2, b3⟩)]
  rfl
theorem best_toks {ts : List Tk} {lit dist : List Int} (hl : ts.length ≤ 999999) (hwf : AllT ts) (hok : allOkB ts = true) (h1 : BestL 257 (tally ts).1 lit) (h2 : BestL 1 (tally ts).2 dist) : ∀ t ∈ ts, ∃ ws, TokW lit dist t ws := by
  intro t ht
  obtain ⟨hk1, hk2⟩ := lensOk_tally ts hl
  obtain ⟨a1, a2, a3, a4, a5⟩ := h1.facts hk1
  obtain ⟨b1, b2, b3, b4, b5⟩ := h2.facts hk2
  have ho := allOkB_mem hok t ht
  have hh := foldT_has ts tally0 0 tally0_b t ht ho
  have hlit : litSy t < 286 → HasC lit ((litSy t : Nat) : Int) := fun h => ⟨litSy t, rfl, (a4 _ (hh.1 h)).1, (a4 _ (hh.1 h)).2⟩
  have hdist : t.l ≠ 0 → distSy t < 30 → HasC dist ((distSy t : Nat) : Int) := fun h0 h => ⟨distSy t, rfl, (b4 _ (hh.2 h0 h)).1, (b4 _ (hh.2 h0 h)).2⟩
  rcases tok_shape (hwf t ht) ho with ⟨c, hc, rfl⟩ | ⟨j, u, hj, hu, rfl⟩ | ⟨i, v, j, u, hi, hv, hlv, hj, hu, rfl⟩
  · exact ⟨_, .one c (by omega) (by omega) (by simpa [litSy] using hlit (by simp [litSy]; omega))⟩
  · have hd : distSy ⟨258, ((db j + u : Nat) : Int), 0⟩ = j := by unfold distSy; rw [Int.toNat_natCast]; exact db_last hj hu
    have hs : litSy ⟨258, ((db j + u : Nat) : Int), 0⟩ = 285 := rfl
    rw [hd] at hdist
    rw [hs] at hlit
    exact ⟨_, .long j u hj hu (hlit (by omega)) (hdist (by show (258 : Int) ≠ 0; decide) hj)⟩
  · have h3 := lb_top i hi
    have hd : distSy ⟨((lb i + v : Nat) : Int), ((db j + u : Nat) : Int), 0⟩ = j := by unfold distSy; rw [Int.toNat_natCast]; exact db_last hj hu
    have hs : litSy ⟨((lb i + v : Nat) : Int), ((db j + u : Nat) : Int), 0⟩ = 257 + i := by
      unfold litSy
      rw [if_neg (by simp only; omega), if_neg (by simp only; omega), Int.toNat_natCast, lb_last hi hv]
    rw [hd] at hdist
    rw [hs] at hlit
    exact ⟨_, .copy i v j u hi hv hlv hj hu (hlit (by omega)) (hdist (by simp only; omega) hj)⟩
end Go.Proofs.YtdpegahcgaicnaaGreatDoor

namespace Go.Proofs.YtdpegahcgaicnaaGreatDoor
open Go.RowKit
set_option linter.unusedVariables false

theorem conv_own {w : World} {ao : Option Addr} {n cap : Nat} {xs : List Int} (h : w.ownsRow 0 5 1 (.slice ao n cap) n (xs.map (.int .u8))) (hn : n = xs.length) :
    (convert 22 9 (.slice ao n cap)).run Tryz.prog w = .ok (.string (strOfNums xs)) w := by
  subst hn
  have hr := own_reads h rfl
  cases ao with
  | none =>
    have : xs = [] := hr.1 rfl
    subst this
    exact run_convert_bytes_nil (P := Tryz.prog) w _ 5 Tryz.underlying22 Tryz.underlying5 _ _ _ Tryz.underlying9
  | some a =>
    obtain ⟨g, rfl⟩ : ∃ g, a = ⟨g, 0, none⟩ := by
      rcases h.2 with ⟨hv, _⟩ | ⟨g, c, cur, hv, _⟩
      · simp at hv
      · simp at hv; exact ⟨g, hv.1⟩
    exact run_convert_bytes_arg (P := Tryz.prog) w _ 5 Tryz.underlying22 Tryz.underlying5 g 0 xs.length cap xs rfl (fun i hi => by
      have := hr.2 _ rfl i hi
      rwa [addr_add] at this) _ Tryz.underlying9

end Go.Proofs.YtdpegahcgaicnaaGreatDoor

namespace Go.Proofs.YtdpegahcgaicnaaGreatDoor
open Go.RowKit
set_option linter.unusedVariables false
set_option linter.unusedSimpArgs false
set_option maxRecDepth 20000

set_option maxHeartbeats 2000000 in
theorem concat_no (w : World) : Calls Tryz.prog 47 #[.slice none 0 0] w fun e w' => e = .returned (.slice none 0 0) ∧ Kept NoB w w' := by
  have HG : Hid (∀ W, Calls Tryz.prog 82 #[.slice none 0 0, .int .i64 0] W fun e w' => e = .returned (.slice none 0 0) ∧ Kept NoB W w') := Lib.hid fun W => by
    go_enter Tryz.func82, Tryz.ntmps82
    go_wp2
    go_ret
    exact ⟨rfl, Kept.refl _ _⟩
  go_enter Tryz.func47, Tryz.ntmps47
  go_wp2_with fail
  go_loopw [11, 3, 5] (fun i s _ wr => i = .int .i64 0 ∧ s = .int .i64 0 ∧ w = wr) (fun _ _ _ _ => 0)
  case atStart => exact ⟨rfl, rfl, rfl⟩
  case round =>
    obtain ⟨rfl, rfl, rfl⟩ := hrel
    go_wp2_with fail
    refine (HG.out _).mono ?_
    rintro e w1 ⟨rfl, hk⟩
    have HK := Lib.hid hk
    clear hk
    go_wp2_with fail
    go_loopw [27, 6, 8] (fun i s _ wr => i = .int .i64 0 ∧ s = .slice none 0 0 ∧ w1 = wr) (fun _ _ _ _ => 0)
    case atStart => exact ⟨rfl, rfl, rfl⟩
    case round =>
      obtain ⟨rfl, rfl, rfl⟩ := hrel
      go_wp2
      go_ret
      exact ⟨rfl, HK.out⟩
set_option maxHeartbeats 2000000 in
theorem most0 (w : World) : Calls Tryz.prog 18 #[.int .i64 0] w fun e w' => e = .returned (.int .i64 10) ∧ w = w' := by
  go_enter Tryz.func18, Tryz.ntmps18
  go_wp2
  go_ret
  exact ⟨rfl, rfl⟩
set_option maxHeartbeats 2000000 in
theorem most65536 (w : World) : Calls Tryz.prog 18 #[.int .i64 65536] w fun e w' => e = .returned (.int .i64 65551) ∧ w = w' := by
  go_enter Tryz.func18, Tryz.ntmps18
  go_wp2
  go_ret
  exact ⟨rfl, rfl⟩
set_option maxHeartbeats 2000000 in
/-- Few bytes are stored as one block. -/
theorem storeAll_few (w : World) (R : Nat) (ao : Option Addr) (cap : Nat) (bs : List Int) (s : Nat) (last : Bool) (ba : Option Addr) (bc : Nat) (b : List Int) (h : Wtr w R ao cap bs s) (hs : s ≤ 700000000000) (hr : Reads w ba b) (hb : AllB b) (hl : b.length ≤ 65535)
    (hsep : ∀ a, ba = some a → a.block ≠ R ∧ (Value.slice ao bs.length cap).ownBlock ≠ some a.block) :
    Calls Tryz.prog 48 #[.pointer (some ⟨R, 0, none⟩), .slice ba b.length bc, .bool last] w fun e w' => ∃ ao' cap' bs', e = .returned (.tuple #[]) ∧ WroteP w R (.slice ao bs.length cap) bs s (storedW last (up8 (s + 3) - (s + 3)) b) w' ao' cap' bs' := by
  have HS := Lib.hid (stored_yes w R ao cap bs s last ba bc b h hs hr hb hl hsep)
  obtain ⟨n, hn⟩ : ∃ n, n = b.length := ⟨_, rfl⟩
  rw [← hn] at HS hl ⊢
  clear h hr hb hsep hn
  go_enter Tryz.func48, Tryz.ntmps48
  go_wp2_with fail
  go_loopw [1] (fun v wr => v = .slice ba n bc ∧ w = wr) (fun _ _ => 0)
  case atStart => exact ⟨rfl, rfl⟩
  case round =>
    obtain ⟨rfl, rfl⟩ := hrel
    have hg : ¬ ((65535 : Int) < (n : Int)) := by omega
    go_wp2_with fail
    refine HS.out.mono ?_
    rintro e w1 ⟨ao', cap', bs', rfl, hW⟩
    have HW := Lib.hid hW
    clear hW HS
    go_wp2
    refine bodyPost_end (results_none rfl _ _ _) rfl ?_
    exact ⟨ao', cap', bs', rfl, HW.out⟩
theorem num_inj5 (a b : List Int) (ha : AllB a) (hb : AllB b) (hl : a.length = b.length) (hn : num a = num b) : a = b := by
  induction a generalizing b with
  | nil => cases b with
    | nil => rfl
    | cons => simp at hl
  | cons x t ih =>
    cases b with
    | nil => simp at hl
    | cons y u =>
      have h1 := ha x (by simp)
      have h2 := hb y (by simp)
      simp only [num] at hn
      have : x = y := by omega
      subst this
      rw [ih u (fun z hz => ha z (by simp [hz])) (fun z hz => hb z (by simp [hz])) (by simpa using hl) (by omega)]

theorem nums_stored0 {bs : List Int} (hb : AllB bs) (hl : bs.length = 5) (hn : num bs = putsN (storedW true 5 [])) : bs = [1, 0, 0, 255, 255] :=
  num_inj5 _ _ hb (by unfold AllB; decide) (by rw [hl]; rfl) (by rw [hn]; decide)
theorem nums_fixed0 {bs : List Int} (hb : AllB bs) (hl : bs.length = 2) (hn : num bs = putsN ([(lastN true, 1), (1, 2)] ++ ([] ++ [wordZ fixL 256]))) : bs = [3, 0] :=
  num_inj5 _ _ hb (by unfold AllB; decide) (by rw [hl]; rfl) (by
    have e : wordZ fixL 256 = (0, 7) := by decide +kernel
    rw [hn, e]; decide)
set_option maxHeartbeats 4000000 in
theorem all0_none (w : World) : Calls Tryz.prog 17 #[.int .i64 0, .slice none 0 0] w fun e w' => ∃ ao c, e = .returned (.slice ao 5 c) ∧ Hid ((convert 22 9 (.slice ao 5 c)).run Tryz.prog w' = .ok (.string ⟨#[1, 0, 0, 255, 255]⟩) w') ∧ Kept NoB w w' := by
  have HC := Lib.hid (concat_no w)
  go_enter Tryz.func17, Tryz.ntmps17
  go_wp2_with fail
  refine HC.out.mono ?_
  rintro e w1 ⟨rfl, hk1⟩
  have HN := Lib.hid (neww_any w1)
  have HK1 := Lib.hid hk1
  clear hk1 HC
  go_wp2_with fail
  refine HN.out.mono ?_
  rintro e w2 ⟨R, rfl, hw, hR, hk2⟩
  have HW := Lib.hid hw
  have HR := Lib.hid hR
  have HK2 := Lib.hid (HK1.out.trans hk2)
  clear hw hR hk2 HN
  have hr0 : Reads w2 none ([] : List Int) := ⟨fun _ => rfl, fun a ha => by cases ha⟩
  have HS := Lib.hid (storeAll_few w2 R none 0 [] 0 true none 0 [] HW.out (by omega) hr0 (by intro b hb; cases hb) (by decide) (fun a ha => by cases ha))
  clear hr0
  go_wp2_with fail
  go_loopw [4, 5, 7] (fun _a v _b wr => v = .slice none 0 0 ∧ w2 = wr) (fun _ _ _ _ => 0)
  case atStart => exact ⟨rfl, rfl⟩
  case round =>
    obtain ⟨rfl, rfl⟩ := hrel
    go_wp2_with fail
    refine HS.out.mono ?_
    rintro e w3 ⟨a3, c3, b3, rfl, hW⟩
    have hb3 : b3 = [1, 0, 0, 255, 255] := nums_stored0 hW.1.2.2.1 (by have := hW.1.2.2.2.1; rw [this]; decide) (by have := hW.2.1; rw [this]; simp [num, up8])
    have HB := Lib.hid (wbytes_any w3 R a3 c3 b3 _ hW.1)
    have hk3 : Kept NoB w w3 := HK2.out.own hW.2.2.1 (fun i hi => by
      have h1 := HK1.out.size
      have h2 := HR.out
      rcases hi with e | e
      · unfold OneB at e; omega
      · simp [OwnB, Value.ownBlock] at e)
    have HK3 := Lib.hid hk3
    have HB3 := Lib.hid hb3
    clear hW hb3 hk3 HS
    go_wp2_with fail
    refine HB.out.mono ?_
    rintro e w4 ⟨a4, c4, rfl, ho, _, _, hk4⟩
    have HO := Lib.hid ho
    have HK4 := Lib.hid (HK3.out.trans hk4)
    have hl3 : b3.length = 5 := by rw [HB3.out]; rfl
    clear ho hk4 HB
    go_wp2
    go_ret
    refine ⟨a4, c4, rfl, ?_, HK4.out⟩
    have h := HO.out
    rw [HB3.out] at h
    have h2 := conv_own h rfl
    have e1 : strOfNums [1, 0, 0, 255, 255] = ⟨#[1, 0, 0, 255, 255]⟩ := by decide
    rw [e1] at h2
    exact Lib.hid h2
set_option maxHeartbeats 4000000 in
theorem awake10 (w : World) : Calls Tryz.prog 9 #[] w fun e w' => e = .returned (.bool true) ∧ Kept NoB w w' := by
  have HN := Lib.hid (neww_any w)
  have HA := Lib.hid all0_none
  have HM0 := Lib.hid most0
  have HM1 := Lib.hid most65536
  go_enter Tryz.func9, Tryz.ntmps9
  go_wp2_with fail
  refine HN.out.mono ?_
  rintro e w1 ⟨R, rfl, hw, hR, hk1⟩
  have HR := Lib.hid hR
  have HK1 := Lib.hid hk1
  have HF := Lib.hid (fixedBlock_yes w1 R none 0 [] 0 true none 0 [] hw (by omega) (fun j hj => absurd hj (by simp)) (fun h => absurd rfl h) (by decide) (fun t ht => by cases ht) rfl)
  clear hw hR hk1 HN
  go_wp2_with fail
  refine HF.out.mono ?_
  rintro e w2 ⟨ws, a2, c2, b2, rfl, hws, hW⟩
  obtain rfl : ws = [] := by cases hws; rfl
  have hb2 : b2 = [3, 0] := nums_fixed0 hW.1.2.2.1 (by have := hW.1.2.2.2.1; rw [this]; decide +kernel) (by have := hW.2.1; rw [this]; simp [num])
  have HB2 := Lib.hid hb2
  have hk2 : Kept NoB w w2 := HK1.out.own hW.2.2.1 (fun i hi => by
    have h2 := HR.out
    rcases hi with e | e
    · unfold OneB at e; omega
    · simp [OwnB, Value.ownBlock] at e)
  have HK2 := Lib.hid hk2
  have HW := Lib.hid hW.1
  clear hws hW hb2 hk2 HF
  go_wp2_with fail
  refine (HA.out _).mono ?_
  rintro e w3 ⟨a3, c3, rfl, hcv, hk3⟩
  have HK3 := Lib.hid (HK2.out.trans hk3)
  have HB := Lib.hid (wbytes_any w3 R a2 c2 b2 _ (HW.out.keptNo hk3))
  have hcv : (convert 22 9 (.slice a3 5 c3)).run Tryz.prog w3 = .ok (.string ⟨#[1, 0, 0, 255, 255]⟩) w3 := hcv.out
  clear hk3 HA
  go_wp2_with fail
  refine HB.out.mono ?_
  rintro e w4 ⟨a4, c4, rfl, ho, _, _, hk4⟩
  have hl3 : b2.length = 2 := by rw [HB2.out]; rfl
  have hcw : (convert 22 9 (.slice a4 2 c4)).run Tryz.prog w4 = .ok (.string ⟨#[3, 0]⟩) w4 := by
    rw [HB2.out] at ho
    have h2 := conv_own ho rfl
    have e1 : strOfNums [3, 0] = ⟨#[3, 0]⟩ := by decide
    rw [e1] at h2
    exact h2
  rw [hl3]
  have HK4 := Lib.hid (HK3.out.trans hk4)
  clear ho hk4 HB hcv hl3
  go_wp2_with fail
  refine (HM0.out _).mono ?_
  rintro e w5 ⟨rfl, rfl⟩
  go_wp2_with fail
  refine (HM1.out _).mono ?_
  rintro e w5 ⟨rfl, rfl⟩
  go_wp2
  go_ret
  exact ⟨rfl, HK4.out⟩
end Go.Proofs.YtdpegahcgaicnaaGreatDoor

namespace Go.Proofs.YtdpegahcgaicnaaGreatDoor
open Go.RowKit
set_option linter.unusedVariables false
set_option linter.unusedSimpArgs false
set_option maxRecDepth 20000

end Go.Proofs.YtdpegahcgaicnaaGreatDoor

namespace Go.Proofs.YtdpegahcgaicnaaGreatDoor
open Go.RowKit
set_option linter.unusedVariables false

/-- The calls, each with its three numbers; where they lie. -/
def OpsAt (w : World) (ao : Option Addr) (len : Nat) (kd nn vv : Nat → Int) : Prop :=
  (ao = none → len = 0) ∧ ∀ b off, ao = some ⟨b, off, none⟩ → ∀ i, i < len →
    w.cell? ⟨b, off + i * 3, none⟩ = some (.int .i64 (kd i)) ∧ w.cell? ⟨b, off + i * 3 + 1, none⟩ = some (.int .i64 (nn i)) ∧ w.cell? ⟨b, off + i * 3 + 2, none⟩ = some (.int .u32 (vv i))

theorem OpsAt.below {w w' : World} {ao : Option Addr} {len : Nat} {kd nn vv : Nat → Int} (h : OpsAt w ao len kd nn vv) (hb : Below w.heap.size w w') : OpsAt w' ao len kd nn vv := by
  refine ⟨h.1, fun b off he i hi => ?_⟩
  obtain ⟨h1, h2, h3⟩ := h.2 b off he i hi
  have hlt := World.block_lt_of_cell? w _ h1
  exact ⟨(hb.cell hlt).trans h1, (hb.cell (p := ⟨b, off + i * 3 + 1, none⟩) hlt).trans h2, (hb.cell (p := ⟨b, off + i * 3 + 2, none⟩) hlt).trans h3⟩

end Go.Proofs.YtdpegahcgaicnaaGreatDoor

namespace Go.Proofs.YtdpegahcgaicnaaGreatDoor

def poly : Nat := 3988292384
def step1 (r : Nat) : Nat := if r % 2 = 1 then r / 2 ^^^ poly else r / 2
def steps : Nat → Nat → Nat
  | 0, r => r
  | n + 1, r => step1 (steps n r)
end Go.Proofs.YtdpegahcgaicnaaGreatDoor

namespace Go.Proofs.YtdpegahcgaicnaaGreatDoor
open Go.RowKit
set_option linter.unusedVariables false

end Go.Proofs.YtdpegahcgaicnaaGreatDoor

namespace Go.Proofs.YtdpegahcgaicnaaGreatDoor
open Go.RowKit
set_option linter.unusedVariables false

/-- A row of parts, each a slice of bytes. -/
def Parts (w : World) (po : Option Addr) (ps : List (List Int)) : Prop :=
  ps = [] ∨ ∃ b off, po = some ⟨b, off, none⟩ ∧ b < w.heap.size ∧ ∀ i, i < ps.length → ∃ ao cap, w.cell? ⟨b, off + i, none⟩ = some (.slice ao (ps.getD i []).length cap) ∧ Reads w ao (ps.getD i []) ∧ (ps.getD i []).length ≤ cap ∧ cap ≤ maxLen ∧ (ao = none → cap = 0)
def AllP (ps : List (List Int)) : Prop := ∀ p ∈ ps, AllB p
theorem Parts.keptNo {w w' : World} {po : Option Addr} {ps : List (List Int)} (h : Parts w po ps) (hk : Kept NoB w w') : Parts w' po ps := by
  rcases h with h | ⟨b, off, h1, h2, h3⟩
  · exact .inl h
  · refine .inr ⟨b, off, h1, Nat.lt_of_lt_of_le h2 hk.size, fun i hi => ?_⟩
    obtain ⟨ao, cap, c, r, m⟩ := h3 i hi
    exact ⟨ao, cap, hk.cell c, r.keptNo hk, m⟩
theorem AllP.getD {ps : List (List Int)} (h : AllP ps) (i : Nat) : AllB (ps.getD i []) := by
  by_cases hi : i < ps.length
  · have : ps.getD i [] = ps[i] := by simp [List.getD, hi]
    rw [this]; exact h _ (List.getElem_mem hi)
  · have : ps.getD i [] = [] := by simp [List.getD, List.getElem?_eq_none (Nat.le_of_not_lt hi)]
    rw [this]; intro b hb; cases hb
theorem flat_succ (ps : List (List Int)) (j : Nat) (hj : j < ps.length) : (ps.take (j + 1)).flatten = (ps.take j).flatten ++ ps.getD j [] := by
  have e : ps.getD j [] = ps[j] := by simp [List.getD, hj]
  rw [e, List.take_succ_eq_append_getElem hj, List.flatten_append, List.flatten_cons, List.flatten_nil, List.append_nil]
end Go.Proofs.YtdpegahcgaicnaaGreatDoor

namespace Go.Proofs.YtdpegahcgaicnaaGreatDoor
open Go.RowKit
set_option linter.unusedVariables false

end Go.Proofs.YtdpegahcgaicnaaGreatDoor

namespace Go.Proofs.YtdpegahcgaicnaaGreatDoor
open Go.RowKit
set_option linter.unusedVariables false

end Go.Proofs.YtdpegahcgaicnaaGreatDoor

namespace Go.Proofs.YtdpegahcgaicnaaGreatDoor
open Go.RowKit
set_option linter.unusedVariables false

end Go.Proofs.YtdpegahcgaicnaaGreatDoor

namespace Go.Proofs.YtdpegahcgaicnaaGreatDoor
open Go.RowKit
set_option linter.unusedVariables false

theorem Parts.below {w w' : World} {po : Option Addr} {ps : List (List Int)} (h : Parts w po ps) (hb : Below w.heap.size w w') : Parts w' po ps :=
  h.keptNo ((Kept.refl NoB w).ofBelow hb)
end Go.Proofs.YtdpegahcgaicnaaGreatDoor

namespace Go.Proofs.YtdpegahcgaicnaaGreatDoor
open Go.RowKit
set_option linter.unusedVariables false

end Go.Proofs.YtdpegahcgaicnaaGreatDoor

namespace Go.Proofs.YtdpegahcgaicnaaGreatDoor
open Go.RowKit
set_option linter.unusedVariables false

structure Two (T1 T2 : TypeId) (w0 w : World) (A : Nat) (aoa : Option Addr) (capa : Nat) (ba : List Int) (sa : Nat) (B : Nat) (aob : Option Addr) (capb : Nat) (bb : List Int) (sb : Nat) : Prop where
  a : WtrT T1 w A aoa capa ba sa
  b : WtrT T2 w B aob capb bb sb
  ne : A ≠ B
  fa : w0.heap.size ≤ A
  fb : w0.heap.size ≤ B
  oa : ∀ k, (Value.slice aoa ba.length capa).ownBlock = some k → w0.heap.size ≤ k
  ob : ∀ k, (Value.slice aob bb.length capb).ownBlock = some k → w0.heap.size ≤ k
  ab : ∀ k, (Value.slice aoa ba.length capa).ownBlock = some k → (Value.slice aob bb.length capb).ownBlock ≠ some k
  ta : T1 ≠ 5
  tb : T2 ≠ 5
  bel : Below w0.heap.size w0 w
variable {T1 T2 : TypeId} {w0 w w' : World} {A : Nat} {aoa : Option Addr} {capa : Nat} {ba : List Int} {sa : Nat} {B : Nat} {aob : Option Addr} {capb : Nat} {bb : List Int} {sb : Nat}
theorem Two.swap (h : Two T1 T2 w0 w A aoa capa ba sa B aob capb bb sb) : Two T2 T1 w0 w B aob capb bb sb A aoa capa ba sa :=
  ⟨h.b, h.a, h.ne.symm, h.fb, h.fa, h.ob, h.oa, (fun k h1 h2 => h.ab k h2 h1), h.tb, h.ta, h.bel⟩
theorem Two.keptNo (h : Two T1 T2 w0 w A aoa capa ba sa B aob capb bb sb) (hk : Kept NoB w w') : Two T1 T2 w0 w' A aoa capa ba sa B aob capb bb sb :=
  ⟨h.a.kept hk (fun h => h) (fun _ _ h => h), h.b.kept hk (fun h => h) (fun _ _ h => h), h.ne, h.fa, h.fb, h.oa, h.ob, h.ab, h.ta, h.tb, hk.belowNo h.bel⟩
/-- The first one is written, its row where it was or new: the second stays. -/
theorem Two.put (h : Two T1 T2 w0 w A aoa capa ba sa B aob capb bb sb) {ao' : Option Addr} {cap' : Nat} {ba' : List Int} {sa' : Nat} (ha : WtrT T1 w' A ao' cap' ba' sa') (hk : Kept (OrB (OneB A) (OwnB (.slice aoa ba.length capa))) w w')
    (ho : ∀ k, (Value.slice ao' ba'.length cap').ownBlock = some k → (Value.slice aoa ba.length capa).ownBlock = some k ∨ w.heap.size ≤ k) : Two T1 T2 w0 w' A ao' cap' ba' sa' B aob capb bb sb := by
  have hbl := h.b.2.1.lt
  refine ⟨ha, h.b.kept hk ?_ ?_, h.ne, h.fa, h.fb, ?_, h.ob, ?_, h.ta, h.tb, hk.below h.bel ?_⟩
  · intro e
    rcases e with e | e
    · exact h.ne e.symm
    · exact row_ne h.a.2.1 h.b.1 h.tb B e rfl
  · intro k hk' e
    rcases e with e | e
    · exact row_ne h.b.2.1 h.a.1 h.ta k hk' e
    · exact h.ab k e hk'
  · intro k hk'
    rcases ho k hk' with e | e
    · exact h.oa k e
    · have := h.bel.size; omega
  · intro k hk' e
    rcases ho k hk' with e' | e'
    · exact h.ab k e' e
    · have := (hbl k e).2; omega
  · intro k e
    rcases e with e | e
    · have := h.fa; simp [OneB] at e; omega
    · exact h.oa k e
end Go.Proofs.YtdpegahcgaicnaaGreatDoor
