/-
  canon.Codes: the codes of lengths.
  A row of numbers of the call's own that grows.
  Codes on paper: none is another one's beginning; the lengths of the laws; what the document fixes.
  canon.Decoder: what lies in it.
  What the document fixes of codes.
-/
import Derived.Test.YtfmjfgmbjdhogaaGreatDoorMg5
import Derived.Deep.MidRow
namespace Go.Proofs.YtfmjfgmbjdhogaaGreatDoor
open Go.RowKit
set_option linter.unusedVariables false
set_option linter.unusedSimpArgs false

def codeAt (ls : List Int) (i : Nat) : Int :=
  if 0 < ls.getD i 0 then fC (cntsL ls) (ls.getD i 0).toNat + (((ls.take i).count (ls.getD i 0) : Nat) : Int) else 0
theorem take_snoc (ls : List Int) (j : Nat) (h : j < ls.length) : ls.take (j + 1) = ls.take j ++ [ls.getD j 0] := by
  rw [List.take_succ_eq_append_getElem h]; simp [List.getD, h]
theorem cnts_bd (ls : List Int) (hl : ls.length ≤ 320) (n : Nat) : 0 ≤ (cntsL ls).getD n 0 ∧ (cntsL ls).getD n 0 ≤ 320 := by
  by_cases h : n < 16
  · rw [cnts_get _ _ h]
    have := List.count_le_length (l := ls) (a := (n : Int))
    omega
  · have : (cntsL ls).getD n 0 = 0 := by simp [List.getD, cnts_len, show 16 ≤ n by omega]
    omega

end Go.Proofs.YtfmjfgmbjdhogaaGreatDoor

namespace Go.Proofs.YtfmjfgmbjdhogaaGreatDoor
open Go.RowKit
set_option linter.unusedVariables false
set_option linter.unusedSimpArgs false

structure IntSt (w0 w : World) (a : Option Addr) (l c : Nat) (zs : List Int) : Prop where
  len : l = zs.length
  own : w.ownsRow 0 3 1 (.slice a l c) l (zs.map (.int .i64))
  kept : Kept NoB w0 w
  fresh : ∀ k, (Value.slice a l c).ownBlock = some k → w0.heap.size ≤ k
theorem RdI.keptNo {w w' : World} {B : Nat} {ao : Option Addr} {zs : List Int} (h : RdI w B ao zs) (hk : Kept NoB w w') : RdI w' B ao zs := h.kept hk (fun _ _ h => h)
end Go.Proofs.YtfmjfgmbjdhogaaGreatDoor

namespace Go.Proofs.YtfmjfgmbjdhogaaGreatDoor
open Go.RowKit
set_option linter.unusedVariables false
set_option linter.unusedSimpArgs false

theorem count_step (ls : List Int) (i : Nat) (h : i < ls.length) : (ls.take i).count (ls.getD i 0) + 1 = (ls.take (i + 1)).count (ls.getD i 0) := by
  rw [take_snoc ls i h, List.count_append]; simp
theorem count_mono (ls : List Int) (z : Int) (i j : Nat) (h : i ≤ j) : (ls.take i).count z ≤ (ls.take j).count z := by
  have e : ls.take i = (ls.take j).take i := by rw [List.take_take, Nat.min_eq_left h]
  rw [e]
  exact List.Sublist.count_le z (List.take_sublist _ _)
theorem count_all (ls : List Int) (z : Int) (i : Nat) : (ls.take i).count z ≤ ls.count z := List.Sublist.count_le z (List.take_sublist _ _)
theorem fC_grow (ls : List Int) (hl : ls.length ≤ 320) (a : Nat) (ha : 1 ≤ a) (ha15 : a ≤ 15) : ∀ d, a + 1 + d ≤ 16 → (fC (cntsL ls) a + ((ls.count (a : Int) : Nat) : Int)) * ((2 ^ (d + 1) : Nat) : Int) ≤ fC (cntsL ls) (a + 1 + d)
  | 0, _ => by
    rw [Nat.add_zero, fC_succ _ a ha, cnts_get _ _ (by omega)]
    simp
  | d + 1, h => by
    have ih := fC_grow ls hl a ha ha15 d (by omega)
    have hb := cnts_bd ls hl (a + 1 + d)
    rw [show a + 1 + (d + 1) = (a + 1 + d) + 1 by omega, fC_succ _ (a + 1 + d) (by omega), Nat.pow_succ, Int.natCast_mul, ← Int.mul_assoc]
    have : (((2 : Nat)) : Int) = 2 := rfl
    rw [this]
    omega
theorem code_free (ls : List Int) (hl : ls.length ≤ 320) (hs : Small 15 ls) (i k : Nat) (hi : i < ls.length) (hk : k < ls.length) (hne : i ≠ k) (h0 : 0 < ls.getD i 0) (d : Nat) (hd : ls.getD i 0 + (d : Int) = ls.getD k 0) :
    ¬ codeAt ls k / 2 ^ d = codeAt ls i ∧ (d = 0 → (i < k ↔ codeAt ls i < codeAt ls k)) := by
  have hbi := hs.getD i hi
  have hbk := hs.getD k hk
  obtain ⟨a, ha⟩ : ∃ a : Nat, (a : Int) = ls.getD i 0 := ⟨(ls.getD i 0).toNat, by omega⟩
  have ci : codeAt ls i = fC (cntsL ls) a + (((ls.take i).count (a : Int) : Nat) : Int) := by
    unfold codeAt; rw [if_pos h0, ← ha, Int.toNat_natCast]
  have ck : codeAt ls k = fC (cntsL ls) (a + d) + (((ls.take k).count ((a + d : Nat) : Int) : Nat) : Int) := by
    unfold codeAt; rw [if_pos (by omega), ← hd, ← ha, ← Int.natCast_add, Int.toNat_natCast]
  have hri : (ls.take i).count (a : Int) < ls.count (a : Int) := by
    have h1 := count_step ls i hi
    rw [← ha] at h1
    have h2 := count_all ls (a : Int) (i + 1)
    omega
  by_cases hd0 : d = 0
  · subst hd0
    rw [Nat.add_zero] at ck
    have h1 := count_step ls i hi
    have h2 := count_step ls k hk
    rw [← hd, Int.natCast_zero, Int.add_zero] at h2
    rw [← ha] at h1 h2
    have key : i < k ↔ codeAt ls i < codeAt ls k := by
      rw [ci, ck]
      constructor
      · intro h
        have := count_mono ls (a : Int) (i + 1) k h
        omega
      · intro h
        refine Nat.lt_of_not_le (fun hle => ?_)
        have := count_mono ls (a : Int) k i hle
        omega
    refine ⟨?_, fun _ => key⟩
    simp only [Int.pow_zero, Int.ediv_one]
    intro e
    rcases Nat.lt_or_gt_of_ne hne with h | h
    · have := key.1 h; omega
    · have hk2 := count_mono ls (a : Int) (k + 1) i h
      rw [ci, ck] at e
      omega
  · obtain ⟨d', rfl⟩ : ∃ d', d = d' + 1 := ⟨d - 1, by omega⟩
    refine ⟨fun e => ?_, fun h => by omega⟩
    have hg := fC_grow ls hl a (by omega) (by omega) d' (by omega)
    have e2 : a + 1 + d' = a + (d' + 1) := by omega
    rw [e2] at hg
    have hck : fC (cntsL ls) (a + (d' + 1)) ≤ codeAt ls k := by rw [ck]; omega
    have hpow : (2 : Int) ^ (d' + 1) = ((2 ^ (d' + 1) : Nat) : Int) := by rw [Int.natCast_pow]; rfl
    rw [hpow] at e
    have hpp : (0 : Int) < ((2 ^ (d' + 1) : Nat) : Int) := by
      have := Nat.two_pow_pos (d' + 1); omega
    have h3 : fC (cntsL ls) a + ((ls.count (a : Int) : Nat) : Int) ≤ codeAt ls k / ((2 ^ (d' + 1) : Nat) : Int) := (Int.le_ediv_iff_mul_le hpp).2 (by omega)
    rw [e, ci] at h3
    omega
theorem codeAt_bd (ls : List Int) (hl : ls.length ≤ 320) (hs : Small 15 ls) (i : Nat) (hi : i < ls.length) : 0 ≤ codeAt ls i ∧ codeAt ls i ≤ 60000000 := by
  have hb := hs.getD i hi
  unfold codeAt
  split
  · have h1 := fC_bd (cntsL ls) (cnts_bd ls hl) (ls.getD i 0).toNat (by omega)
    have h2 := List.count_le_length (l := ls.take i) (a := ls.getD i 0)
    rw [List.length_take] at h2
    omega
  · omega

end Go.Proofs.YtfmjfgmbjdhogaaGreatDoor

namespace Go.Proofs.YtfmjfgmbjdhogaaGreatDoor
open Go.RowKit
set_option linter.unusedVariables false
set_option linter.unusedSimpArgs false

def cat3 (cnt fst frm : List Int) (pl : Value) (full : Bool) : List Value := cnt.map (.int .i64) ++ (fst.map (.int .i64) ++ (frm.map (.int .i64) ++ [pl, .bool full]))
structure DecSt (D : Nat) (w : World) (cnt fst frm : List Int) (pl : Value) (full : Bool) : Prop where
  l1 : cnt.length = 16
  l2 : fst.length = 16
  l3 : frm.length = 16
  obj : w.heap[D]? = some (.cells (cat3 cnt fst frm pl full).toArray 236 (0, 0))
theorem cat3_len (cnt fst frm : List Int) (pl : Value) (full : Bool) (h1 : cnt.length = 16) (h2 : fst.length = 16) (h3 : frm.length = 16) : (cat3 cnt fst frm pl full).length = 50 := by simp [cat3, h1, h2, h3]
section
variable {D : Nat} {w : World} {cnt fst frm : List Int} {pl : Value} {full : Bool}
theorem DecSt.atC (h : DecSt D w cnt fst frm pl full) (i : Nat) (hi : i < 16) : w.cell? ⟨D, i, none⟩ = some (.int .i64 (cnt.getD i 0)) := by
  rw [obj_cell h.obj i]
  have := h.l1
  simp [cat3, List.getElem?_append_left, List.getD, this, hi]
theorem DecSt.atF (h : DecSt D w cnt fst frm pl full) (i : Nat) (hi : i < 16) : w.cell? ⟨D, 16 + i, none⟩ = some (.int .i64 (fst.getD i 0)) := by
  rw [obj_cell h.obj]
  have := h.l1; have h2 := h.l2
  rw [List.getElem?_toArray]
  unfold cat3
  rw [List.getElem?_append_right (by simp; omega), List.getElem?_append_left (by simp; omega)]
  simp [this, List.getD, h2, hi]
theorem DecSt.atM (h : DecSt D w cnt fst frm pl full) (i : Nat) (hi : i < 16) : w.cell? ⟨D, 32 + i, none⟩ = some (.int .i64 (frm.getD i 0)) := by
  rw [obj_cell h.obj]
  have := h.l1; have h2 := h.l2; have h3 := h.l3
  rw [List.getElem?_toArray]
  unfold cat3
  rw [List.getElem?_append_right (by simp; omega), List.getElem?_append_right (by simp; omega), List.getElem?_append_left (by simp; omega)]
  have e : 32 + i - (List.map (Value.int .i64) cnt).length - (List.map (Value.int .i64) fst).length = i := by simp; omega
  rw [e]
  simp [List.getD, h3, hi]
theorem DecSt.atP (h : DecSt D w cnt fst frm pl full) : w.cell? ⟨D, 48, none⟩ = some pl := by
  rw [obj_cell h.obj]
  have := h.l1; have h2 := h.l2; have h3 := h.l3
  rw [List.getElem?_toArray]
  unfold cat3
  rw [List.getElem?_append_right (by simp; omega), List.getElem?_append_right (by simp; omega), List.getElem?_append_right (by simp; omega)]
  simp [this, h2, h3]
theorem DecSt.atB (h : DecSt D w cnt fst frm pl full) : w.cell? ⟨D, 49, none⟩ = some (.bool full) := by
  rw [obj_cell h.obj]
  have := h.l1; have h2 := h.l2; have h3 := h.l3
  rw [List.getElem?_toArray]
  unfold cat3
  rw [List.getElem?_append_right (by simp; omega), List.getElem?_append_right (by simp; omega), List.getElem?_append_right (by simp; omega)]
  simp [this, h2, h3]
theorem DecSt.free (h : DecSt D w cnt fst frm pl full) (j : Nat) : w.frozen? ⟨D, j, none⟩ = false := obj_free h.obj j
theorem DecSt.kept {S : Nat → Prop} {w' : World} (h : DecSt D w cnt fst frm pl full) (hk : Kept S w w') (hs : ¬ S D) : DecSt D w' cnt fst frm pl full := ⟨h.l1, h.l2, h.l3, hk.obj h.obj hs⟩
theorem DecSt.setCnt (h : DecSt D w cnt fst frm pl full) (i : Nat) (hi : i < 16) (x : Int) : DecSt D (w.setCell ⟨D, i, none⟩ (.int .i64 x)) (cnt.set i x) fst frm pl full :=
  ⟨by rw [List.length_set]; exact h.l1, h.l2, h.l3, by
    rw [obj_set h.obj i _]
    have h1 := h.l1
    rw [List.setIfInBounds_toArray]
    unfold cat3
    rw [List.set_append_left _ _ (by simp; omega), List.map_set]⟩
theorem DecSt.setFrm (h : DecSt D w cnt fst frm pl full) (i : Nat) (hi : i < 16) (x : Int) : DecSt D (w.setCell ⟨D, 32 + i, none⟩ (.int .i64 x)) cnt fst (frm.set i x) pl full :=
  ⟨h.l1, h.l2, by rw [List.length_set]; exact h.l3, by
    rw [obj_set h.obj _ _]
    have h1 := h.l1; have h2 := h.l2; have h3 := h.l3
    rw [List.setIfInBounds_toArray]
    unfold cat3
    have e : 32 + i - (List.map (Value.int .i64) cnt).length - (List.map (Value.int .i64) fst).length = i := by simp only [List.length_map]; omega
    rw [List.set_append_right _ _ (by simp; omega), List.set_append_right _ _ (by simp; omega), e, List.set_append_left _ _ (by simp; omega), List.map_set]⟩
theorem DecSt.setPl (h : DecSt D w cnt fst frm pl full) (x : Value) : DecSt D (w.setCell ⟨D, 48, none⟩ x) cnt fst frm x full :=
  ⟨h.l1, h.l2, h.l3, by
    rw [obj_set h.obj _ _]
    have h1 := h.l1; have h2 := h.l2; have h3 := h.l3
    rw [List.setIfInBounds_toArray]
    unfold cat3
    rw [List.set_append_right _ _ (by simp; omega), List.set_append_right _ _ (by simp; omega), List.set_append_right _ _ (by simp; omega)]
    simp [h1, h2, h3]⟩
end
theorem setCells_cells {D : Nat} {ty : TypeId} : ∀ (vs : List Value) (o : Nat) (w : World) (ds : List Value), w.heap[D]? = some (.cells ds.toArray ty (0, 0)) → o + vs.length ≤ ds.length →
    (w.setCells D o vs).heap[D]? = some (.cells (ds.take o ++ (vs ++ ds.drop (o + vs.length))).toArray ty (0, 0))
  | [], o, w, ds, h, _ => by
    show w.heap[D]? = _
    rw [h]; simp
  | v :: r, o, w, ds, h, hl => by
    simp only [List.length_cons] at hl
    have h1 := obj_set h o v
    rw [List.setIfInBounds_toArray] at h1
    have ih := setCells_cells r (o + 1) (w.setCell ⟨D, o, none⟩ v) (ds.set o v) h1 (by rw [List.length_set]; omega)
    rw [World.setCells, ih]
    have e1 : (ds.set o v).take (o + 1) = ds.take o ++ [v] := by
      rw [List.take_succ_eq_append_getElem (by rw [List.length_set]; omega)]
      simp [List.take_set_of_le]
    have e2 : (ds.set o v).drop (o + 1 + r.length) = ds.drop (o + (v :: r).length) := by
      rw [List.drop_set_of_lt (by omega)]
      simp only [List.length_cons]
      congr 1; omega
    rw [e1, e2]
    simp
theorem Kept.setCells {S : Nat → Prop} {a : World} {D : Nat} : ∀ (vs : List Value) (o : Nat) (b : World), Kept S a b → (S D ∨ a.heap.size ≤ D) → Kept S a (b.setCells D o vs)
  | [], o, b, h, _ => h
  | v :: r, o, b, h, hp => by
    rw [World.setCells]
    exact Kept.setCells r (o + 1) _ (Kept.setCell (p := ⟨D, o, none⟩) h hp v) hp
section
variable {D : Nat} {w : World} {cnt fst frm : List Int} {pl : Value} {full : Bool}
theorem DecSt.rowCnt (h : DecSt D w cnt fst frm pl full) (zs : List Int) (hz : zs.length = 16) : DecSt D (w.setCells D 0 (arrC zs).toList) zs fst frm pl full :=
  ⟨hz, h.l2, h.l3, by
    have h1 := h.l1
    rw [setCells_cells _ 0 w _ h.obj (by rw [cat3_len _ _ _ _ _ h.l1 h.l2 h.l3]; simp [arrC, hz])]
    unfold cat3
    rw [List.take_zero, List.nil_append, List.drop_append_of_le_length (by simp [arrC, hz, h1]), List.drop_of_length_le (by simp [arrC, hz, h1])]
    simp [arrC]⟩
theorem DecSt.rowFst (h : DecSt D w cnt fst frm pl full) (zs : List Int) (hz : zs.length = 16) : DecSt D (w.setCells D 16 (arrC zs).toList) cnt zs frm pl full :=
  ⟨h.l1, hz, h.l3, by
    have h1 := h.l1; have h2 := h.l2
    rw [setCells_cells _ 16 w _ h.obj (by rw [cat3_len _ _ _ _ _ h.l1 h.l2 h.l3]; simp [arrC, hz])]
    unfold cat3
    have e1 : (List.map (Value.int .i64) cnt ++ (List.map (Value.int .i64) fst ++ (List.map (Value.int .i64) frm ++ [pl, .bool full]))).take 16 = List.map (Value.int .i64) cnt := by
      rw [List.take_append_of_le_length (by simp [h1]), List.take_of_length_le (by simp [h1])]
    have e2 : (List.map (Value.int .i64) cnt ++ (List.map (Value.int .i64) fst ++ (List.map (Value.int .i64) frm ++ [pl, .bool full]))).drop (16 + (arrC zs).toList.length) = List.map (Value.int .i64) frm ++ [pl, .bool full] := by
      have e3 : 16 + (arrC zs).toList.length = (List.map (Value.int .i64) cnt ++ List.map (Value.int .i64) fst).length := by simp [arrC, hz, h1, h2]
      rw [e3, ← List.append_assoc, List.drop_left]
    rw [e1, e2]
    simp [arrC]⟩
theorem DecSt.stores (h : DecSt D w cnt fst frm pl full) (o : Nat) (ho : o + 16 ≤ 50) (zs : List Int) (hz : zs.length = 16) : (storeCells ⟨D, o, none⟩ (arrC zs).toList).run Tryz.prog w = .ok () (w.setCells D o (arrC zs).toList) := by
  have := run_storeCells_cells (P := Tryz.prog) D o (arrC zs).toList 0 w (fun j hj => by
    rw [obj_cell h.obj, List.getElem?_toArray]
    rw [List.getElem?_eq_getElem (by rw [cat3_len _ _ _ _ _ h.l1 h.l2 h.l3]; simp [arrC, hz] at hj; omega)]; rfl) (fun j _ => h.free _) (fun v hv => by
    simp [arrC] at hv
    obtain ⟨x, _, rfl⟩ := hv
    rfl)
  simpa using this
theorem DecSt.range1 (h : DecSt D w cnt fst frm pl full) : w.rangeAt D 0 (cnt.map (.int .i64)) := by
  intro j v hv
  have hj : j < 16 := by have := (List.getElem?_eq_some_iff.1 hv).1; simp [h.l1] at this; exact this
  rw [Nat.zero_add, h.atC j hj, ← hv]
  have := h.l1
  simp [List.getD, this, hj]
theorem DecSt.range3 (h : DecSt D w cnt fst frm pl full) : w.rangeAt D 32 (frm.map (.int .i64)) := by
  intro j v hv
  have hj : j < 16 := by have := (List.getElem?_eq_some_iff.1 hv).1; simp [h.l3] at this; exact this
  rw [h.atM j hj, ← hv]
  have := h.l3
  simp [List.getD, this, hj]
end

def sN (cs : List Int) : Nat → Int
  | 0 => 0
  | n + 1 => sN cs n + cs.getD n 0
def fromP (cs : List Int) (n : Nat) : List Int := (List.range 16).map (fun m : Nat => if m < n then sN cs m else 0)
theorem fromP_len (cs : List Int) (n : Nat) : (fromP cs n).length = 16 := by simp [fromP]
theorem fromP_one (cs : List Int) : fromP cs 1 = zer16 := by
  apply List.ext_getElem (by simp [fromP, zer16])
  intro i h1 h2
  simp only [fromP, List.getElem_map, List.getElem_range, zer16, List.getElem_replicate]
  split
  · have : i = 0 := by omega
    subst this; rfl
  · rfl
theorem fromP_step (cs : List Int) (n : Nat) (h : n < 16) : fromP cs (n + 1) = (fromP cs n).set n (sN cs n) := by
  apply List.ext_getElem (by simp [fromP])
  intro i h1 h2
  rw [List.getElem_set]
  simp only [fromP, List.getElem_map, List.getElem_range]
  by_cases e : n = i
  · subst e; rw [if_pos (by omega), if_pos rfl]
  · rw [if_neg e]
    by_cases h3 : i < n
    · rw [if_pos (by omega), if_pos h3]
    · rw [if_neg (by omega), if_neg h3]
theorem fromP_get (cs : List Int) (n m : Nat) (h : m < 16) (hn : m < n) : (fromP cs n).getD m 0 = sN cs m := by simp [fromP, List.getD, h, hn]
def cnt0 (ls : List Int) : List Int := (cntsL ls).set 0 0
theorem cnt0_get (ls : List Int) (n : Nat) (h : n < 16) : (cnt0 ls).getD n 0 = if n = 0 then 0 else ((ls.count (n : Int) : Nat) : Int) := by
  unfold cnt0
  by_cases e : n = 0
  · subst e; simp [List.getD, cnts_len]
  · rw [if_neg e, ← cnts_get ls n h]
    simp [List.getD, List.getElem?_set_ne (show 0 ≠ n by omega)]
theorem fC_cnt0 (ls : List Int) : ∀ n, fC (cnt0 ls) n = fC (cntsL ls) n
  | 0 => rfl
  | 1 => rfl
  | n + 2 => by
    have ih := fC_cnt0 ls (n + 1)
    have e : (cnt0 ls).getD (n + 1) 0 = (cntsL ls).getD (n + 1) 0 := by
      unfold cnt0
      simp [List.getD, List.getElem?_set_ne (show 0 ≠ n + 1 by omega)]
    show (fC (cnt0 ls) (n + 1) + (cnt0 ls).getD (n + 1) 0) * 2 = (fC (cntsL ls) (n + 1) + (cntsL ls).getD (n + 1) 0) * 2
    rw [ih, e]
theorem firsts_cnt0 (ls : List Int) : firstsP (cnt0 ls) 16 = firstsP (cntsL ls) 16 := by
  unfold firstsP
  apply List.map_congr_left
  intro m _
  rw [fC_cnt0]
end Go.Proofs.YtfmjfgmbjdhogaaGreatDoor

namespace Go.Proofs.YtfmjfgmbjdhogaaGreatDoor
open Go.RowKit
set_option linter.unusedVariables false
set_option linter.unusedSimpArgs false

end Go.Proofs.YtfmjfgmbjdhogaaGreatDoor
