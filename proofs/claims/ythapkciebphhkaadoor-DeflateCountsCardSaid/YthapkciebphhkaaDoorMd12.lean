/-
  Codes on paper: none is another one's beginning; the lengths of the laws; what the document fixes.
  canon.Decoder: what lies in it.
  What the document fixes of codes.
  canon.New: the Decoder of lengths.
  The reader of bits: a contract for each of its methods.
  The reader of bits: Take, Align, At, Bytes, NewReader.
  NewReader; the writer of bits: NewWriter, Bytes, Len, Align.
  Decoder.Read: the place whose code comes next.
  Bits turned round. No Go in sight.
-/
import Derived.Test.YthapkciebphhkaaDoorMd11
import Derived.Deep.MidRow
import Derived.BigRegion
import Derived.Deep.RegionLaw
import Derived.Test.YthapkciebphhkaaDoorRows
import Derived.Deep.DeepCutAuto
namespace Go.Proofs.YthapkciebphhkaaDoor
open Go.RowKit
set_option linter.unusedVariables false
set_option linter.unusedSimpArgs false

theorem count_step (ls : List Int) (i : Nat) (h : i < ls.length) : (ls.take i).count (ls.getD i 0) + 1 = (ls.take (i + 1)).count (ls.getD i 0) := by
  rw [take_snoc ls i h, List.count_append]; simp
theorem count_mono (ls : List Int) (z : Int) (i j : Nat) (h : i ≤ j) : (ls.take i).count z ≤ (ls.take j).count z := by
  have e : ls.take i = (ls.take j).take i := by rw [List.take_take, Nat.min_eq_left h]
  rw [e]
  exact List.Sublist.count_le z (List.take_sublist _ _)
theorem count_all (ls : List Int) (z : Int) (i : Nat) : (ls.take i).count z ≤ ls.count z := List.Sublist.count_le z (List.take_sublist _ _)
theorem fC_grow (ls : List Int) (hl : ls.length ≤ 320) (a : Nat) (ha : 1 ≤ a) (ha15 : a ≤ 15) : ∀ d, a + 1 + d ≤ 16 → (fC (cntsL ls) a + ((ls.count (a : Int) : Nat) : Int)) * ((2 ^ (d + 1) : Nat) : Int) ≤ fC (cntsL ls) (a + 1 + d)
  | 0, _ => by
    rw [Nat.add_zero, fC_succ _ a ha, cnts_get _ _ (by omega)]
    simp
  | d + 1, h => by
    have ih := fC_grow ls hl a ha ha15 d (by omega)
    have hb := cnts_bd ls hl (a + 1 + d)
    rw [show a + 1 + (d + 1) = (a + 1 + d) + 1 by omega, fC_succ _ (a + 1 + d) (by omega), Nat.pow_succ, Int.natCast_mul, ← Int.mul_assoc]
    have : (((2 : Nat)) : Int) = 2 := rfl
    rw [this]
    omega
/-- No code is another one's beginning; those of one length rise. -/
theorem code_free (ls : List Int) (hl : ls.length ≤ 320) (hs : Small 15 ls) (i k : Nat) (hi : i < ls.length) (hk : k < ls.length) (hne : i ≠ k) (h0 : 0 < ls.getD i 0) (d : Nat) (hd : ls.getD i 0 + (d : Int) = ls.getD k 0) :
    ¬ codeAt ls k / 2 ^ d = codeAt ls i ∧ (d = 0 → (i < k ↔ codeAt ls i < codeAt ls k)) := by
  have hbi := hs.getD i hi
  have hbk := hs.getD k hk
  obtain ⟨a, ha⟩ : ∃ a : Nat, (a : Int) = ls.getD i 0 := ⟨(ls.getD i 0).toNat, by omega⟩
  have ci : codeAt ls i = fC (cntsL ls) a + (((ls.take i).count (a : Int) : Nat) : Int) := by
    unfold codeAt; rw [if_pos h0, ← ha, Int.toNat_natCast]
  have ck : codeAt ls k = fC (cntsL ls) (a + d) + (((ls.take k).count ((a + d : Nat) : Int) : Nat) : Int) := by
    unfold codeAt; rw [if_pos (by omega), ← hd, ← ha, ← Int.natCast_add, Int.toNat_natCast]
  have hri : (ls.take i).count (a : Int) < ls.count (a : Int) := by
    have h1 := count_step ls i hi
    rw [← ha] at h1
    have h2 := count_all ls (a : Int) (i + 1)
    omega
  by_cases hd0 : d = 0
  · subst hd0
    rw [Nat.add_zero] at ck
    have h1 := count_step ls i hi
    have h2 := count_step ls k hk
    rw [← hd, Int.natCast_zero, Int.add_zero] at h2
    rw [← ha] at h1 h2
    have key : i < k ↔ codeAt ls i < codeAt ls k := by
      rw [ci, ck]
      constructor
      · intro h
        have := count_mono ls (a : Int) (i + 1) k h
        omega
      · intro h
        refine Nat.lt_of_not_le (fun hle => ?_)
        have := count_mono ls (a : Int) k i hle
        omega
    refine ⟨?_, fun _ => key⟩
    simp only [Int.pow_zero, Int.ediv_one]
    intro e
    rcases Nat.lt_or_gt_of_ne hne with h | h
    · have := key.1 h; omega
    · have hk2 := count_mono ls (a : Int) (k + 1) i h
      rw [ci, ck] at e
      omega
  · obtain ⟨d', rfl⟩ : ∃ d', d = d' + 1 := ⟨d - 1, by omega⟩
    refine ⟨fun e => ?_, fun h => by omega⟩
    have hg := fC_grow ls hl a (by omega) (by omega) d' (by omega)
    have e2 : a + 1 + d' = a + (d' + 1) := by omega
    rw [e2] at hg
    have hck : fC (cntsL ls) (a + (d' + 1)) ≤ codeAt ls k := by rw [ck]; omega
    have hpow : (2 : Int) ^ (d' + 1) = ((2 ^ (d' + 1) : Nat) : Int) := by rw [Int.natCast_pow]; rfl
    rw [hpow] at e
    have hpp : (0 : Int) < ((2 ^ (d' + 1) : Nat) : Int) := by
      have := Nat.two_pow_pos (d' + 1); omega
    have h3 : fC (cntsL ls) a + ((ls.count (a : Int) : Nat) : Int) ≤ codeAt ls k / ((2 ^ (d' + 1) : Nat) : Int) := (Int.le_ediv_iff_mul_le hpp).2 (by omega)
    rw [e, ci] at h3
    omega
theorem codeAt_bd (ls : List Int) (hl : ls.length ≤ 320) (hs : Small 15 ls) (i : Nat) (hi : i < ls.length) : 0 ≤ codeAt ls i ∧ codeAt ls i ≤ 60000000 := by
  have hb := hs.getD i hi
  unfold codeAt
  split
  · have h1 := fC_bd (cntsL ls) (cnts_bd ls hl) (ls.getD i 0).toNat (by omega)
    have h2 := List.count_le_length (l := ls.take i) (a := ls.getD i 0)
    rw [List.length_take] at h2
    omega
  · omega

theorem count_rep0 : ∀ n : Nat, (List.replicate n (0 : Int)).count 0 = n := fun n => by simp
theorem count_set : ∀ n p : Nat, p < n → ((List.replicate n (0 : Int)).set p 1).count 0 + 1 = n ∧ ((List.replicate n (0 : Int)).set p 1).count 1 = 1
  | 0, p, h => by omega
  | n + 1, 0, _ => by
    rw [List.replicate_succ, List.set_cons_zero, List.count_cons, List.count_cons]
    have : (List.replicate n (0 : Int)).count 1 = 0 := List.count_eq_zero.2 (fun h => by have := List.eq_of_mem_replicate h; omega)
    rw [count_rep0, this]
    simp
  | n + 1, p + 1, h => by
    obtain ⟨h1, h2⟩ := count_set n p (by omega)
    rw [List.replicate_succ, List.set_cons_succ, List.count_cons, List.count_cons, h2]
    simp; omega
/-- Lengths of weights are not refused. -/
theorem ref_lens (ws : List Int) (lv : List Lf) (hok : LensOkP ws 15) (hs : SrtP lv (leavesL 0 ws)) : refS (lensOf lv ws.length 15) = 0 := by
  have hF := lensF ws 15 lv hok hs
  have e15 : (15 : Int).toNat = 15 := rfl
  rw [e15] at hF
  unfold refS
  rw [if_neg]
  by_cases n0 : lv.length = 0
  · have e : lensOf lv ws.length 15 = List.replicate ws.length 0 := by unfold lensOf; rw [if_pos n0]
    rw [e]
    unfold kindS
    rw [if_pos (by rw [count_rep0]; simp)]
    omega
  · by_cases n1 : lv.length = 1
    · have e : lensOf lv ws.length 15 = (List.replicate ws.length 0).set (lv.getD 0 (0, 0)).1.toNat 1 := by unfold lensOf; rw [if_neg n0, if_pos n1]
      have hm : lv.getD 0 (0, 0) ∈ lv := getD_mem lv 0 (by omega)
      obtain ⟨_, q, hq, hql⟩ := leaf_place hok.small hs _ hm
      have hc := count_set ws.length q hql
      rw [e, hq, Int.toNat_natCast]
      unfold kindS
      rw [List.length_set, List.length_replicate, if_neg (by omega), if_pos ⟨by omega, hc.2⟩]
      omega
    · have hk := hF.kraft
      rw [if_neg n0, if_neg n1] at hk
      unfold kindS
      rw [hk]
      split
      · omega
      · split
        · omega
        · simp

/-- Lengths of the laws: of weights. -/
structure GoodP (Z : List Int) : Prop where
  few : Z.length ≤ 60
  small : Small 15 Z
  ref : refS Z = 0
theorem good_of (A : List Int) (lv : List Lf) (hA : A.length ≤ 60) (hb : Small 299 A) (hs : SrtP lv (leavesL 0 A)) : LensOkP A 15 → GoodP (lensOf lv A.length 15) ∧ (lensOf lv A.length 15).length = A.length := by
  intro hok
  have hF := lensF A 15 lv hok hs
  have e15 : (15 : Int).toNat = 15 := rfl
  rw [e15] at hF
  refine ⟨⟨by rw [hF.len]; exact hA, fun z hz => ?_, ref_lens A lv hok hs⟩, hF.len⟩
  obtain ⟨p, hp, e⟩ := List.mem_iff_getElem.1 hz
  have h := hF.bd p (by rw [← hF.len]; exact hp)
  have e2 : (lensOf lv A.length 15).getD p 0 = z := by simp [List.getD, hp, e]
  rw [e2] at h
  omega

theorem range_take (f : Nat → Int) (P i : Nat) (h : i < P) : ((List.range P).map f).take (i + 1) = ((List.range P).map f).take i ++ [f i] := by
  rw [List.take_succ_eq_append_getElem (by simpa using h)]; simp
end Go.Proofs.YthapkciebphhkaaDoor

namespace Go.Proofs.YthapkciebphhkaaDoor
open Go.RowKit
set_option linter.unusedVariables false
set_option linter.unusedSimpArgs false

def cat3 (cnt fst frm : List Int) (pl : Value) (full : Bool) : List Value := cnt.map (.int .i64) ++ (fst.map (.int .i64) ++ (frm.map (.int .i64) ++ [pl, .bool full]))
theorem cat3_len (cnt fst frm : List Int) (pl : Value) (full : Bool) (h1 : cnt.length = 16) (h2 : fst.length = 16) (h3 : frm.length = 16) : (cat3 cnt fst frm pl full).length = 50 := by simp [cat3, h1, h2, h3]
section
variable {D : Nat} {w : World} {cnt fst frm : List Int} {pl : Value} {full : Bool}
end
theorem setCells_cells {D : Nat} {ty : TypeId} : ∀ (vs : List Value) (o : Nat) (w : World) (ds : List Value), w.heap[D]? = some (.cells ds.toArray ty (0, 0)) → o + vs.length ≤ ds.length →
    (w.setCells D o vs).heap[D]? = some (.cells (ds.take o ++ (vs ++ ds.drop (o + vs.length))).toArray ty (0, 0))
  | [], o, w, ds, h, _ => by
    show w.heap[D]? = _
    rw [h]; simp
  | v :: r, o, w, ds, h, hl => by
    simp only [List.length_cons] at hl
    have h1 := obj_set h o v
    rw [List.setIfInBounds_toArray] at h1
    have ih := setCells_cells r (o + 1) (w.setCell ⟨D, o, none⟩ v) (ds.set o v) h1 (by rw [List.length_set]; omega)
    rw [World.setCells, ih]
    have e1 : (ds.set o v).take (o + 1) = ds.take o ++ [v] := by
      rw [List.take_succ_eq_append_getElem (by rw [List.length_set]; omega)]
      simp [List.take_set_of_le]
    have e2 : (ds.set o v).drop (o + 1 + r.length) = ds.drop (o + (v :: r).length) := by
      rw [List.drop_set_of_lt (by omega)]
      simp only [List.length_cons]
      congr 1; omega
    rw [e1, e2]
    simp
theorem Kept.setCells {S : Nat → Prop} {a : World} {D : Nat} : ∀ (vs : List Value) (o : Nat) (b : World), Kept S a b → (S D ∨ a.heap.size ≤ D) → Kept S a (b.setCells D o vs)
  | [], o, b, h, _ => h
  | v :: r, o, b, h, hp => by
    rw [World.setCells]
    exact Kept.setCells r (o + 1) _ (Kept.setCell (p := ⟨D, o, none⟩) h hp v) hp
section
variable {D : Nat} {w : World} {cnt fst frm : List Int} {pl : Value} {full : Bool}
end

/-- Where each length begins among the places. -/
def sN (cs : List Int) : Nat → Int
  | 0 => 0
  | n + 1 => sN cs n + cs.getD n 0
def fromP (cs : List Int) (n : Nat) : List Int := (List.range 16).map (fun m : Nat => if m < n then sN cs m else 0)
theorem fromP_len (cs : List Int) (n : Nat) : (fromP cs n).length = 16 := by simp [fromP]
theorem fromP_one (cs : List Int) : fromP cs 1 = zer16 := by
  apply List.ext_getElem (by simp [fromP, zer16])
  intro i h1 h2
  simp only [fromP, List.getElem_map, List.getElem_range, zer16, List.getElem_replicate]
  split
  · have : i = 0 := by omega
    subst this; rfl
  · rfl
theorem fromP_step (cs : List Int) (n : Nat) (h : n < 16) : fromP cs (n + 1) = (fromP cs n).set n (sN cs n) := by
  apply List.ext_getElem (by simp [fromP])
  intro i h1 h2
  rw [List.getElem_set]
  simp only [fromP, List.getElem_map, List.getElem_range]
  by_cases e : n = i
  · subst e; rw [if_pos (by omega), if_pos rfl]
  · rw [if_neg e]
    by_cases h3 : i < n
    · rw [if_pos (by omega), if_pos h3]
    · rw [if_neg (by omega), if_neg h3]
theorem fromP_get (cs : List Int) (n m : Nat) (h : m < 16) (hn : m < n) : (fromP cs n).getD m 0 = sN cs m := by simp [fromP, List.getD, h, hn]
/-- The counts without those of length 0. -/
def cnt0 (ls : List Int) : List Int := (cntsL ls).set 0 0
theorem cnt0_get (ls : List Int) (n : Nat) (h : n < 16) : (cnt0 ls).getD n 0 = if n = 0 then 0 else ((ls.count (n : Int) : Nat) : Int) := by
  unfold cnt0
  by_cases e : n = 0
  · subst e; simp [List.getD, cnts_len]
  · rw [if_neg e, ← cnts_get ls n h]
    simp [List.getD, List.getElem?_set_ne (show 0 ≠ n by omega)]
theorem fC_cnt0 (ls : List Int) : ∀ n, fC (cnt0 ls) n = fC (cntsL ls) n
  | 0 => rfl
  | 1 => rfl
  | n + 2 => by
    have ih := fC_cnt0 ls (n + 1)
    have e : (cnt0 ls).getD (n + 1) 0 = (cntsL ls).getD (n + 1) 0 := by
      unfold cnt0
      simp [List.getD, List.getElem?_set_ne (show 0 ≠ n + 1 by omega)]
    show (fC (cnt0 ls) (n + 1) + (cnt0 ls).getD (n + 1) 0) * 2 = (fC (cntsL ls) (n + 1) + (cntsL ls).getD (n + 1) 0) * 2
    rw [ih, e]
theorem firsts_cnt0 (ls : List Int) : firstsP (cnt0 ls) 16 = firstsP (cntsL ls) 16 := by
  unfold firstsP
  apply List.map_congr_left
  intro m _
  rw [fC_cnt0]
end Go.Proofs.YthapkciebphhkaaDoor

namespace Go.Proofs.YthapkciebphhkaaDoor
open Go.RowKit
set_option linter.unusedVariables false
set_option linter.unusedSimpArgs false

theorem codes_read {w w' : World} {zs : List Int} {e : Ending} (h : CodesP w zs e w') : ∃ a c, e = .returned (.tuple #[.slice a zs.length c, .int .i64 0]) ∧ (∀ i, i < zs.length → ∃ g, a = some ⟨g, 0, none⟩ ∧ w'.cell? ⟨g, i, none⟩ = some (.int .u32 (zs.getD i 0))) ∧ Kept NoB w w' := by
  obtain ⟨a, c, rfl, ho, hk⟩ := h
  refine ⟨a, c, rfl, fun i hi => ?_, hk⟩
  rcases ho.2 with ⟨_, hz⟩ | ⟨g, cc, cur, hv, _⟩
  · omega
  · simp at hv
    obtain ⟨rfl, rfl⟩ := hv
    refine ⟨g, rfl, ?_⟩
    rw [ho.cellAt i (by omega)]; simp [List.getD, hi]
theorem codes_a (w : World) : Calls Tryd.prog 33 #[.slice (some ⟨w.heap.size, 0, none⟩) 4 4] (w.alloc (.cells #[.int .i64 2, .int .i64 1, .int .i64 3, .int .i64 3] 3)) (CodesP (w.alloc (.cells #[.int .i64 2, .int .i64 1, .int .i64 3, .int .i64 3] 3)) [2, 0, 6, 7]) := by
  have := codes_calls (some ⟨w.heap.size, 0, none⟩) 4 (w.heap.size + 1) [2, 1, 3, 3] (w.alloc (.cells #[.int .i64 2, .int .i64 1, .int .i64 3, .int .i64 3] 3)) (rd_new w _ _ rfl) (fun z hz => by simp at hz; omega) (by decide) (by decide +kernel)
  rw [show codesL [2, 1, 3, 3] = [2, 0, 6, 7] by decide +kernel] at this
  exact this
theorem kind_c (w : World) : Calls Tryd.prog 54 #[.slice (some ⟨w.heap.size, 0, none⟩) 2 2] (w.alloc (.cells #[.int .i64 1, .int .i64 1] 3)) fun e w' => e = .returned (.int .i64 3) ∧ Kept NoB (w.alloc (.cells #[.int .i64 1, .int .i64 1] 3)) w' := by
  have := kind_calls (some ⟨w.heap.size, 0, none⟩) 2 (w.heap.size + 1) [1, 1] (w.alloc (.cells #[.int .i64 1, .int .i64 1] 3)) (rd_new w _ _ rfl) (fun z hz => by simp at hz; omega) (by decide)
  rw [show kindS [1, 1] = 3 by decide +kernel] at this
  exact this
theorem kind_d (w : World) : Calls Tryd.prog 54 #[.slice (some ⟨w.heap.size, 0, none⟩) 2 2] (w.alloc (.cells #[.int .i64 0, .int .i64 1] 3)) fun e w' => e = .returned (.int .i64 2) ∧ Kept NoB (w.alloc (.cells #[.int .i64 0, .int .i64 1] 3)) w' := by
  have := kind_calls (some ⟨w.heap.size, 0, none⟩) 2 (w.heap.size + 1) [0, 1] (w.alloc (.cells #[.int .i64 0, .int .i64 1] 3)) (rd_new w _ _ rfl) (fun z hz => by simp at hz; omega) (by decide)
  rw [show kindS [0, 1] = 2 by decide +kernel] at this
  exact this

end Go.Proofs.YthapkciebphhkaaDoor

namespace Go.Proofs.YthapkciebphhkaaDoor
open Go.RowKit
set_option linter.unusedVariables false
set_option linter.unusedSimpArgs false

/-- The next free place of each length, when the first j places are laid. -/
def nextQ (ls : List Int) (j : Nat) : List Int := (List.range 16).map (fun n : Nat => sN (cnt0 ls) n + (if n = 0 then 0 else (((ls.take j).count (n : Int) : Nat) : Int)))
theorem nextQ_len (ls : List Int) (j : Nat) : (nextQ ls j).length = 16 := by simp [nextQ]
theorem nextQ_get (ls : List Int) (j n : Nat) (h : n < 16) : (nextQ ls j).getD n 0 = sN (cnt0 ls) n + (if n = 0 then 0 else (((ls.take j).count (n : Int) : Nat) : Int)) := by simp [nextQ, List.getD, h]
theorem nextQ_zero (ls : List Int) : nextQ ls 0 = fromP (cnt0 ls) 16 := by
  apply List.ext_getElem (by simp [nextQ, fromP])
  intro i h1 h2
  have hi : i < 16 := by simpa [nextQ] using h1
  simp [nextQ, fromP, hi]
theorem nextQ_step (ls : List Int) (j z : Nat) (h : j < ls.length) (hz : ls.getD j 0 = (z : Int)) (h1 : 1 ≤ z) (h15 : z < 16) : nextQ ls (j + 1) = (nextQ ls j).set z ((nextQ ls j).getD z 0 + 1) := by
  obtain ⟨v, hv⟩ : ∃ v, v = (nextQ ls j).getD z 0 + 1 := ⟨_, rfl⟩
  rw [← hv]
  rw [nextQ_get _ _ _ h15, if_neg (by omega)] at hv
  apply List.ext_getElem (by simp [nextQ])
  intro i h2 h3
  rw [List.getElem_set]
  simp only [nextQ, List.getElem_map, List.getElem_range]
  rw [take_snoc ls j h, hz, List.count_append]
  by_cases e : z = i
  · subst e
    rw [if_neg (by omega), if_pos rfl, hv]
    simp; omega
  · rw [if_neg e]
    have e2 : ¬ (z : Int) = (i : Int) := by omega
    simp [List.count_cons, e2]
theorem nextQ_same (ls : List Int) (j : Nat) (h : j < ls.length) (hz : ls.getD j 0 = 0) : nextQ ls (j + 1) = nextQ ls j := by
  apply List.ext_getElem (by simp [nextQ])
  intro i h2 h3
  simp only [nextQ, List.getElem_map, List.getElem_range]
  rw [take_snoc ls j h, hz, List.count_append]
  by_cases e : i = 0
  · rw [if_pos e, if_pos e]
  · have e2 : ¬ (0 : Int) = (i : Int) := by omega
    simp [List.count_cons, e2, e]
theorem cnt0_bd (ls : List Int) (hl : ls.length ≤ 320) (n : Nat) : 0 ≤ (cnt0 ls).getD n 0 ∧ (cnt0 ls).getD n 0 ≤ 320 := by
  by_cases h : n < 16
  · rw [cnt0_get _ _ h]
    split
    · omega
    · have := List.count_le_length (l := ls) (a := (n : Int)); omega
  · have : (cnt0 ls).getD n 0 = 0 := by simp [List.getD, cnt0, cnts_len, show 16 ≤ n by omega]
    omega
theorem sN_bd (ls : List Int) (hl : ls.length ≤ 320) : ∀ n, 0 ≤ sN (cnt0 ls) n ∧ sN (cnt0 ls) n ≤ 320 * (n : Int)
  | 0 => by simp [sN]
  | n + 1 => by
    have ih := sN_bd ls hl n
    have := cnt0_bd ls hl n
    simp only [sN]
    omega
theorem sN_mono (ls : List Int) (hl : ls.length ≤ 320) (m : Nat) : ∀ d, sN (cnt0 ls) m ≤ sN (cnt0 ls) (m + d)
  | 0 => Int.le_refl _
  | d + 1 => by
    have := sN_mono ls hl m d
    have h2 := cnt0_bd ls hl (m + d)
    rw [show m + (d + 1) = (m + d) + 1 by omega]
    simp only [sN]
    omega
/-- Where place i stands among the places. -/
def posAt (ls : List Int) (i : Nat) : Int := sN (cnt0 ls) (ls.getD i 0).toNat + (((ls.take i).count (ls.getD i 0) : Nat) : Int)
theorem pos_in (ls : List Int) (hl : ls.length ≤ 320) (i z : Nat) (hi : i < ls.length) (hz : ls.getD i 0 = (z : Int)) (h1 : 1 ≤ z) (h15 : z < 16) :
    sN (cnt0 ls) z ≤ posAt ls i ∧ posAt ls i < sN (cnt0 ls) (z + 1) ∧ posAt ls i < sN (cnt0 ls) 16 := by
  have h2 := count_step ls i hi
  have h3 := count_all ls (ls.getD i 0) (i + 1)
  rw [hz] at h2 h3
  have hm := sN_mono ls hl (z + 1) (16 - (z + 1))
  rw [show z + 1 + (16 - (z + 1)) = 16 by omega] at hm
  have hs : sN (cnt0 ls) (z + 1) = sN (cnt0 ls) z + ((ls.count (z : Int) : Nat) : Int) := by
    simp only [sN]
    rw [cnt0_get _ _ h15, if_neg (by omega)]
  unfold posAt
  rw [hz, Int.toNat_natCast]
  omega
theorem pos_ne (ls : List Int) (hl : ls.length ≤ 320) (hs : Small 15 ls) (i j : Nat) (hi : i < j) (hj : j < ls.length) (h1 : 0 < ls.getD i 0) (h2 : 0 < ls.getD j 0) : posAt ls i ≠ posAt ls j := by
  have b1 := hs.getD i (by omega)
  have b2 := hs.getD j hj
  obtain ⟨a, ha⟩ : ∃ a : Nat, ls.getD i 0 = (a : Int) := ⟨(ls.getD i 0).toNat, by omega⟩
  obtain ⟨b, hb⟩ : ∃ b : Nat, ls.getD j 0 = (b : Int) := ⟨(ls.getD j 0).toNat, by omega⟩
  have p1 := pos_in ls hl i a (by omega) ha (by omega) (by omega)
  have p2 := pos_in ls hl j b hj hb (by omega) (by omega)
  by_cases e : a = b
  · subst e
    have c1 := count_step ls i (by omega)
    rw [ha] at c1
    have c2 := count_mono ls (a : Int) (i + 1) j (by omega)
    unfold posAt
    rw [ha, hb]
    omega
  · rcases Nat.lt_or_gt_of_ne e with h | h
    · have := sN_mono ls hl (a + 1) (b - (a + 1))
      rw [show a + 1 + (b - (a + 1)) = b by omega] at this
      omega
    · have := sN_mono ls hl (b + 1) (a - (b + 1))
      rw [show b + 1 + (a - (b + 1)) = a by omega] at this
      omega
end Go.Proofs.YthapkciebphhkaaDoor

namespace Go.Proofs.YthapkciebphhkaaDoor
open Go.RowKit
set_option linter.unusedVariables false

set_option maxHeartbeats 400000 in
theorem lowest_any (n : Int) (w : World) (h0 : 0 ≤ n) (h1 : n ≤ 32) :
    Calls Tryd.prog 40 #[.int .i64 n] w fun e w' => e = .returned (.int .u64 (IntKind.u64.wrap (IntKind.u64.wrap (2 ^ n.toNat) - 1))) ∧ w = w' := by
  go_enter Tryd.func40, Tryd.ntmps40
  go_wp2
  go_ret
  exact ⟨rfl, rfl⟩

def min3 (n L : Int) : Int := if L < (if 32 < (if n < 0 then 0 else n) then 32 else if n < 0 then 0 else n) then L else if 32 < (if n < 0 then 0 else n) then 32 else if n < 0 then 0 else n


theorem min3_bd (n L : Int) (k : Nat) (hk : min3 n L = k) (hL : 0 ≤ L) : k ≤ 32 ∧ (k : Int) ≤ L ∧ (k : Int) ≤ max n 0 := by unfold min3 at hk; omega

end Go.Proofs.YthapkciebphhkaaDoor

namespace Go.Proofs.YthapkciebphhkaaDoor
open Go.RowKit
set_option linter.unusedVariables false

def up8 (p : Nat) : Nat := (p + 7) / 8 * 8
end Go.Proofs.YthapkciebphhkaaDoor

namespace Go.Proofs.YthapkciebphhkaaDoor
open Go.RowKit
set_option linter.unusedVariables false

/-- A writer: its bytes, in a row of its own, and how many bits were put. -/
def WtrT (T : TypeId) (w : World) (R : Nat) (ao : Option Addr) (cap : Nat) (bs : List Int) (s : Nat) : Prop :=
  w.heap[R]? = some (.cells #[.slice ao bs.length cap, .int .i64 s] T (0, 0)) ∧ w.ownsRow 0 5 1 (.slice ao bs.length cap) bs.length (bs.map (.int .u8)) ∧
  AllB bs ∧ bs.length = (s + 7) / 8 ∧ num bs < 2 ^ s ∧ s ≤ 1000000000000

def Wtr (w : World) (R : Nat) (ao : Option Addr) (cap : Nat) (bs : List Int) (s : Nat) : Prop := WtrT 51 w R ao cap bs s

theorem WtrT.kept {T : TypeId} {S : Nat → Prop} {w w' : World} {R : Nat} {ao : Option Addr} {cap : Nat} {bs : List Int} {p : Nat} (h : WtrT T w R ao cap bs p) (hk : Kept S w w') (h1 : ¬ S R) (h2 : ∀ k, (Value.slice ao bs.length cap).ownBlock = some k → ¬ S k) : WtrT T w' R ao cap bs p :=
  ⟨hk.obj h.1 h1, hk.row h.2.1 h2, h.2.2⟩
theorem Wtr.kept {S : Nat → Prop} {w w' : World} {R : Nat} {ao : Option Addr} {cap : Nat} {bs : List Int} {p : Nat} (h : Wtr w R ao cap bs p) (hk : Kept S w w') (h1 : ¬ S R) (h2 : ∀ k, (Value.slice ao bs.length cap).ownBlock = some k → ¬ S k) : Wtr w' R ao cap bs p :=
  ⟨hk.obj h.1 h1, hk.row h.2.1 h2, h.2.2⟩
theorem Wtr.keptNo {w w' : World} {R : Nat} {ao : Option Addr} {cap : Nat} {bs : List Int} {p : Nat} (h : Wtr w R ao cap bs p) (hk : Kept NoB w w') : Wtr w' R ao cap bs p :=
  h.kept hk (fun h => h) (fun _ _ h => h)

def NewW (w : World) (e : Ending) (w' : World) : Prop :=
  ∃ R, e = .returned (.pointer (some ⟨R, 0, none⟩)) ∧ Wtr w' R none 0 [] 0 ∧ w.heap.size ≤ R ∧ Kept NoB w w'
set_option maxHeartbeats 1000000 in
theorem neww_any (w : World) : Calls Tryd.prog 15 #[] w (NewW w) := by
  go_enter Tryd.func15, Tryd.ntmps15
  go_wp2
  go_ret
  refine ⟨w.heap.size, rfl, ⟨heap_alloc_new _ _, World.ownsRow_nil _ _ _ _, (by intro b hb; cases hb), by simp, by simp [num], by omega⟩, Nat.le_refl _, (Kept.refl _ _).alloc _⟩

set_option maxHeartbeats 1000000 in
theorem wlen_any (w : World) (R : Nat) (ao : Option Addr) (cap : Nat) (bs : List Int) (s : Nat) (h : Wtr w R ao cap bs s) :
    Calls Tryd.prog 49 #[.pointer (some ⟨R, 0, none⟩)] w fun e w' => e = .returned (.int .i64 s) ∧ Kept NoB w w' := by
  have c1 : w.cell? ⟨R, 1, none⟩ = some (.int .i64 s) := by simpa using obj_cell h.1 1
  clear h
  go_enter Tryd.func49, Tryd.ntmps49
  go_wp2
  go_ret
  exact ⟨rfl, Kept.refl _ _⟩

set_option maxHeartbeats 1000000 in
theorem wbytes_any (w : World) (R : Nat) (ao : Option Addr) (cap : Nat) (bs : List Int) (s : Nat) (h : Wtr w R ao cap bs s) :
    Calls Tryd.prog 18 #[.pointer (some ⟨R, 0, none⟩)] w (Copied w ao bs) := by
  have c0 : w.cell? ⟨R, 0, none⟩ = some (.slice ao bs.length cap) := by simpa using obj_cell h.1 0
  have hr := own_reads h.2.1 rfl
  have hl : bs.length ≤ 140737488355328 := by have := h.2.2.2.1; have := h.2.2.2.2.2; omega
  clear h
  have HR := Lib.hid hr; clear hr
  go_enter Tryd.func18, Tryd.ntmps18
  go_wp2_with (go_at_call 30; refine (clone_any _ _ _ _ HR.out hl).mono ?_; rintro e w1 ⟨ao', cap', rfl, ho, hf, hn, hk⟩)
  go_ret
  exact ⟨ao', cap', rfl, ho, hf, hn, hk⟩

set_option maxHeartbeats 1000000 in
theorem walign_any (w : World) (R : Nat) (ao : Option Addr) (cap : Nat) (bs : List Int) (s : Nat) (h : Wtr w R ao cap bs s) (hs : s ≤ 900000000000) :
    Calls Tryd.prog 45 #[.pointer (some ⟨R, 0, none⟩)] w fun e w' => e = .returned (.tuple #[]) ∧ Wtr w' R ao cap bs (up8 s) ∧ Kept (OneB R) w w' := by
  have c0 : w.cell? ⟨R, 0, none⟩ = some (.slice ao bs.length cap) := by simpa using obj_cell h.1 0
  have c1 : w.cell? ⟨R, 1, none⟩ = some (.int .i64 s) := by simpa using obj_cell h.1 1
  have f1 : w.frozen? ⟨R, 1, none⟩ = false := obj_free h.1 1
  have hl := h.2.2.2.1
  have hlm : bs.length ≤ 1000000000000000 := by omega
  have HL := Lib.hid hl; clear hl
  have H := Lib.hid h; clear h
  go_enter Tryd.func45, Tryd.ntmps45
  go_wp2
  go_end0
  have e8 : 8 * (bs.length : Int) = ((up8 s : Nat) : Int) := by have := HL.out; unfold up8; omega
  rw [e8]
  obtain ⟨h1, h2, h3, h4, h5, h6⟩ := H.out
  have hne := row_ne h2 h1 (by decide)
  refine ⟨rfl, ⟨?_, ?_, h3, by unfold up8; omega, ?_, by unfold up8; omega⟩, Kept.setCell (S := OneB R) (p := ⟨R, 1, none⟩) (Kept.refl _ _) (.inl rfl) _⟩
  · simpa using obj_set h1 1 (.int .i64 (up8 s : Nat))
  · exact (Kept.setCell (S := OneB R) (p := ⟨R, 1, none⟩) (Kept.refl _ w) (.inl rfl) _).row h2 (fun k hk' e => hne k hk' e)
  · exact Nat.lt_of_lt_of_le h5 (pow_le_pow2 (by unfold up8; omega))
end Go.Proofs.YthapkciebphhkaaDoor

namespace Go.Proofs.YthapkciebphhkaaDoor
open Go.RowKit
set_option linter.unusedVariables false
set_option linter.unusedSimpArgs false

theorem and1_u32d (r : Nat) (h : r < 4294967296) : bits .and .u32 (r : Int) 1 = ((r % 2 : Nat) : Int) := by
  have := u32_and_nat r 1 h (by decide)
  rw [nat_mask1] at this
  exact this
theorem rank_at : ∀ (ls : List Int) (z : Int) (k : Nat), k < ls.count z → ∃ j, j < ls.length ∧ ls.getD j 0 = z ∧ (ls.take j).count z = k
  | [], z, k, h => by simp at h
  | y :: r, z, k, h => by
    rw [List.count_cons] at h
    by_cases e : y = z
    · subst e
      cases k with
      | zero => exact ⟨0, by simp, rfl, by simp⟩
      | succ k =>
        simp at h
        obtain ⟨j, h1, h2, h3⟩ := rank_at r y k h
        exact ⟨j + 1, by simpa using h1, by simpa using h2, by rw [List.take_succ_cons, List.count_cons, h3]; simp⟩
    · have e2 : (y == z) = false := by simpa using e
      rw [e2] at h
      simp at h
      obtain ⟨j, h1, h2, h3⟩ := rank_at r z k h
      exact ⟨j + 1, by simpa using h1, by simpa using h2, by rw [List.take_succ_cons, List.count_cons, h3, e2]; simp⟩
/-- The first n bits, the first one the highest. -/
def codeN (v : Nat) : Nat → Nat
  | 0 => 0
  | n + 1 => codeN v n * 2 + v / 2 ^ n % 2
theorem codeN_lt (v : Nat) : ∀ n, codeN v n < 2 ^ n
  | 0 => by simp [codeN]
  | n + 1 => by have := codeN_lt v n; simp only [codeN, Nat.pow_succ]; omega
/-- No place of length m has these bits for its code. -/
def NoAt (ls : List Int) (v m : Nat) : Prop := ∀ j, j < ls.length → ls.getD j 0 = (m : Int) → codeAt ls j ≠ (codeN v m : Int)
theorem codeAt_of (ls : List Int) (m j : Nat) (hm : 1 ≤ m) (hz : ls.getD j 0 = (m : Int)) : codeAt ls j = fC (cntsL ls) m + (((ls.take j).count (m : Int) : Nat) : Int) := by
  unfold codeAt
  rw [if_pos (by omega), hz, Int.toNat_natCast]
theorem hit_at (ls : List Int) (v m : Nat) (hm : 1 ≤ m) (h0 : 0 ≤ (codeN v m : Int) - fC (cntsL ls) m) (h1 : (codeN v m : Int) - fC (cntsL ls) m < ((ls.count (m : Int) : Nat) : Int)) :
    ∃ j, j < ls.length ∧ ls.getD j 0 = (m : Int) ∧ codeAt ls j = (codeN v m : Int) ∧ posAt ls j = sN (cnt0 ls) m + ((codeN v m : Int) - fC (cntsL ls) m) := by
  obtain ⟨k, hk⟩ : ∃ k : Nat, (codeN v m : Int) - fC (cntsL ls) m = (k : Int) := ⟨((codeN v m : Int) - fC (cntsL ls) m).toNat, by omega⟩
  obtain ⟨j, h2, h3, h4⟩ := rank_at ls (m : Int) k (by omega)
  refine ⟨j, h2, h3, ?_, ?_⟩
  · rw [codeAt_of ls m j hm h3, h4]; omega
  · unfold posAt; rw [h3, Int.toNat_natCast, h4, hk]
theorem no_at (ls : List Int) (v m : Nat) (hm : 1 ≤ m) (h : ¬ (0 ≤ (codeN v m : Int) - fC (cntsL ls) m ∧ (codeN v m : Int) - fC (cntsL ls) m < ((ls.count (m : Int) : Nat) : Int))) : NoAt ls v m := by
  intro j hj hz e
  rw [codeAt_of ls m j hm hz] at e
  have h1 := count_step ls j hj
  have h2 := count_all ls (m : Int) (j + 1)
  rw [hz] at h1
  omega
/-- What Read tells, and where the reader is then. -/
def ReadS (ls : List Int) (T v p : Nat) (s f : Int) (q : Nat) : Prop :=
  (∃ n i : Nat, 1 ≤ n ∧ n ≤ T ∧ i < ls.length ∧ ls.getD i 0 = (n : Int) ∧ codeAt ls i = (codeN v n : Int) ∧ (∀ m, 1 ≤ m → m < n → NoAt ls v m) ∧ s = (i : Int) ∧ f = 0 ∧ q = p + n) ∨
  ((∀ m, 1 ≤ m → m ≤ T → NoAt ls v m) ∧ s = 0 ∧ f = (if kindS ls = 3 ∨ (T = 0 ∧ 0 < sN (cnt0 ls) 16) then 2 else 3) ∧ q = p)
/-- Numbers that lie in blocks of S. -/
def RdG (w : World) (S : Nat → Prop) (ao : Option Addr) (zs : List Int) : Prop :=
  ∀ i, i < zs.length → ∃ g off, ao = some ⟨g, off, none⟩ ∧ S g ∧ w.cell? ⟨g, off + i, none⟩ = some (.int .i64 (zs.getD i 0))
theorem RdG.kept {S T : Nat → Prop} {w w' : World} {ao : Option Addr} {zs : List Int} (h : RdG w S ao zs) (hk : Kept T w w') (hs : ∀ k, S k → ¬ T k) : RdG w' S ao zs := fun i hi => by
  obtain ⟨g, o, h1, h2, h3⟩ := h i hi
  exact ⟨g, o, h1, h2, (World.cell?_of_block (hk.block _ (World.block_lt_of_cell? w _ h3) (hs g h2))).trans h3⟩
theorem RdG.room {S : Nat → Prop} {w : World} {ao : Option Addr} {zs : List Int} (h : RdG w S ao zs) : RdI w w.heap.size ao zs := fun i hi => by
  obtain ⟨g, o, h1, h2, h3⟩ := h i hi
  exact ⟨g, o, h1, World.block_lt_of_cell? w _ h3, h3⟩
theorem RdI.toG {B : Nat} {w : World} {ao : Option Addr} {zs : List Int} (h : RdI w B ao zs) : RdG w (fun k => k < B) ao zs := h
end Go.Proofs.YthapkciebphhkaaDoor

namespace Go.Proofs.YthapkciebphhkaaDoor

/-- The lowest n bits of v turned round, as the document tells them: one behind the other. -/
def revN : Nat → Nat → Nat
  | 0, _ => 0
  | n + 1, v => 2 * revN n v + v / 2 ^ n % 2

theorem revN_bit (n v i : Nat) : (revN n v).testBit i = (decide (i < n) && v.testBit (n - 1 - i)) := by
  induction n generalizing i with
  | zero => simp [revN]
  | succ n ih =>
    have hb : v / 2 ^ n % 2 < 2 := Nat.mod_lt _ (by decide)
    cases i with
    | zero =>
      have e : (v / 2 ^ n).testBit 0 = v.testBit n := by rw [Nat.testBit_div_two_pow]; simp
      rw [← show v.testBit n = v.testBit (n + 1 - 1 - 0) from by simp, ← e]
      simp only [revN, Nat.testBit_zero]
      have : (2 * revN n v + v / 2 ^ n % 2) % 2 = v / 2 ^ n % 2 := by omega
      rw [this]; simp
    | succ i =>
      have : (2 * revN n v + v / 2 ^ n % 2) / 2 = revN n v := by omega
      simp only [revN, Nat.testBit_succ, this, ih]
      have e : n - 1 - i = n + 1 - 1 - (i + 1) := by omega
      rw [e]; simp
theorem revN_lt (n v : Nat) : revN n v < 2 ^ n := by
  induction n with
  | zero => simp [revN]
  | succ n ih =>
    have hb : v / 2 ^ n % 2 < 2 := Nat.mod_lt _ (by decide)
    simp only [revN, Nat.pow_succ]; omega
theorem revN_revN (n v : Nat) (h : v < 2 ^ n) : revN n (revN n v) = v := by
  apply Nat.eq_of_testBit_eq
  intro i
  rw [revN_bit, revN_bit]
  by_cases hi : i < n
  · have e : n - 1 - (n - 1 - i) = i := by omega
    simp [hi, e]; omega
  · have : v.testBit i = false := Nat.testBit_lt_two_pow (Nat.lt_of_lt_of_le h (Nat.pow_le_pow_right (by decide) (by omega)))
    simp [hi, this]

/-- One step of the net: neighbours k bits apart change places. -/
def sw (k m v : Nat) : Nat := (v / 2 ^ k &&& m) ||| ((v &&& m) * 2 ^ k % 4294967296)
def swi (k m i : Nat) : Nat := if m.testBit i then i + k else i - k

theorem sw_bit (k m v i : Nat) (hi : i < 32) (hm : ∀ j, j < 32 → m.testBit j = false → k ≤ j ∧ m.testBit (j - k) = true) (hm2 : ∀ j, j < 32 → m.testBit j = true → j < k ∨ m.testBit (j - k) = false) :
    (sw k m v).testBit i = v.testBit (swi k m i) := by
  unfold sw swi
  rw [Nat.testBit_or, Nat.testBit_and, Nat.testBit_div_two_pow, show (4294967296 : Nat) = 2 ^ 32 from rfl, Nat.testBit_mod_two_pow, Nat.testBit_mul_two_pow, Nat.testBit_and]
  cases hb : m.testBit i with
  | true =>
    rcases hm2 i hi hb with h | h
    · have : ¬ k ≤ i := by omega
      simp [this, Nat.add_comm]
    · simp [h, Nat.add_comm]
  | false =>
    have h := hm i hi hb
    simp [h.1, h.2, hi]
theorem sw_lt (k m v : Nat) (hm : m < 4294967296) : sw k m v < 4294967296 := by
  unfold sw
  exact Nat.or_lt_two_pow (n := 32) (Nat.and_lt_two_pow _ hm) (Nat.mod_lt _ (by decide))

def net (v : Nat) : Nat :=
  let a := sw 8 16711935 (sw 4 252645135 (sw 2 858993459 (sw 1 1431655765 v)))
  a / 65536 ||| a * 65536 % 4294967296

theorem net_lt (v : Nat) : net v < 4294967296 := by
  have ha := sw_lt 8 16711935 (sw 4 252645135 (sw 2 858993459 (sw 1 1431655765 v))) (by decide)
  unfold net
  exact Nat.or_lt_two_pow (n := 32) (Nat.lt_of_le_of_lt (Nat.div_le_self _ _) ha) (Nat.mod_lt _ (by decide))

theorem mask_ok (k m : Nat) (h : ∀ j : Fin 32, (m.testBit j.val = false → k ≤ j.val ∧ m.testBit (j.val - k) = true) ∧ (m.testBit j.val = true → j.val < k ∨ m.testBit (j.val - k) = false)) :
    (∀ j, j < 32 → m.testBit j = false → k ≤ j ∧ m.testBit (j - k) = true) ∧ (∀ j, j < 32 → m.testBit j = true → j < k ∨ m.testBit (j - k) = false) :=
  ⟨fun j hj => (h ⟨j, hj⟩).1, fun j hj => (h ⟨j, hj⟩).2⟩

theorem net_bit (v i : Nat) (hi : i < 32) : (net v).testBit i = v.testBit (31 - i) := by
  have m1 := mask_ok 1 1431655765 (by decide +kernel)
  have m2 := mask_ok 2 858993459 (by decide +kernel)
  have m4 := mask_ok 4 252645135 (by decide +kernel)
  have m8 := mask_ok 8 16711935 (by decide +kernel)
  have ha := sw_lt 8 16711935 (sw 4 252645135 (sw 2 858993459 (sw 1 1431655765 v))) (by decide)
  have hs : ∀ j : Fin 32, swi 8 16711935 j.val < 32 ∧ swi 4 252645135 (swi 8 16711935 j.val) < 32 ∧ swi 2 858993459 (swi 4 252645135 (swi 8 16711935 j.val)) < 32 ∧
      swi 1 1431655765 (swi 2 858993459 (swi 4 252645135 (swi 8 16711935 j.val))) = (if j.val < 16 then 15 - j.val else 47 - j.val) := by decide +kernel
  have hbit : ∀ j, j < 32 → (sw 8 16711935 (sw 4 252645135 (sw 2 858993459 (sw 1 1431655765 v)))).testBit j = v.testBit (if j < 16 then 15 - j else 47 - j) := by
    intro j hj
    obtain ⟨s1, s2, s3, s4⟩ := hs ⟨j, hj⟩
    simp only at s1 s2 s3 s4
    rw [sw_bit 8 _ _ j hj m8.1 m8.2, sw_bit 4 _ _ _ s1 m4.1 m4.2, sw_bit 2 _ _ _ s2 m2.1 m2.2, sw_bit 1 _ _ _ s3 m1.1 m1.2, s4]
  unfold net
  simp only
  generalize sw 8 16711935 (sw 4 252645135 (sw 2 858993459 (sw 1 1431655765 v))) = a at ha hbit ⊢
  rw [Nat.testBit_or, show (65536 : Nat) = 2 ^ 16 from rfl, Nat.testBit_div_two_pow, show (4294967296 : Nat) = 2 ^ 32 from rfl, Nat.testBit_mod_two_pow, Nat.testBit_mul_two_pow]
  by_cases h16 : i < 16
  · have h1 := hbit (i + 16) (by omega)
    have hn : ¬ 16 ≤ i := by omega
    have e : (if i + 16 < 16 then 15 - (i + 16) else 47 - (i + 16)) = 31 - i := by split <;> omega
    rw [e] at h1
    simp [h1, hn]
  · have h1 : a.testBit (i + 16) = false := Nat.testBit_lt_two_pow (Nat.lt_of_lt_of_le ha (Nat.pow_le_pow_right (n := 2) (i := 32) (by decide) (by omega)))
    have h2 := hbit (i - 16) (by omega)
    have e : (if i - 16 < 16 then 15 - (i - 16) else 47 - (i - 16)) = 31 - i := by split <;> omega
    rw [e] at h2
    have hn : 16 ≤ i := by omega
    simp [h1, h2, hn, hi]

theorem net_rev (v n : Nat) (hn : n ≤ 32) : net v / 2 ^ (32 - n) = revN n v := by
  apply Nat.eq_of_testBit_eq
  intro i
  rw [revN_bit, Nat.testBit_div_two_pow]
  by_cases hi : i < n
  · have e1 : 32 - n + i = i + (32 - n) := Nat.add_comm _ _
    have e2 : 31 - (i + (32 - n)) = n - 1 - i := by omega
    first
      | rw [net_bit v (i + (32 - n)) (by omega), e2]; simp [hi]
      | rw [e1, net_bit v (i + (32 - n)) (by omega), e2]; simp [hi]
  · have h1 : (net v).testBit (i + (32 - n)) = false := Nat.testBit_lt_two_pow (Nat.lt_of_lt_of_le (net_lt v) (Nat.pow_le_pow_right (n := 2) (i := 32) (by decide) (by omega)))
    simp [hi, h1]

theorem sw_eq (k m v : Nat) (hv : v < 4294967296) (hm : m < 4294967296) :
    bits .or .u32 (bits .and .u32 ((v : Int) / ((2 ^ k : Nat) : Int)) (m : Int)) (bits .and .u32 (v : Int) (m : Int) * ((2 ^ k : Nat) : Int) % 4294967296) = ((sw k m v : Nat) : Int) := by
  have h1 : ((v : Int) / ((2 ^ k : Nat) : Int)) = ((v / 2 ^ k : Nat) : Int) := (Int.natCast_ediv v (2 ^ k)).symm
  have h2 : v / 2 ^ k < 4294967296 := Nat.lt_of_le_of_lt (Nat.div_le_self _ _) hv
  rw [h1, u32_and_nat _ _ h2 hm, u32_and_nat _ _ hv hm]
  have h3 : (((v &&& m : Nat) : Int) * ((2 ^ k : Nat) : Int) % 4294967296) = (((v &&& m) * 2 ^ k % 4294967296 : Nat) : Int) := by rw [Int.natCast_emod, Int.natCast_mul]; rfl
  rw [h3, u32_or_nat _ _ (Nat.and_lt_two_pow (n := 32) _ hm) (Nat.mod_lt _ (by decide))]
  rfl
end Go.Proofs.YthapkciebphhkaaDoor
