/-
  Least on paper: a rising row of the weights that are there; rows and pairs as numbers.
-/
import Derived.Test.YtngllecfhkgckaaLeastB
import Derived.Test.YtngllecfhkgckaaPmD
namespace Go.Proofs.Ytngllecfhkgckaa
open Go.RowKit
set_option linter.unusedVariables false
set_option linter.unusedSimpArgs false

theorem put_perm {zs : List Int} {x : Int} {k : Nat} : (zs.take k ++ x :: zs.drop k).Perm (x :: zs) := by
  have h := List.perm_middle (a := x) (l₁ := zs.take k) (l₂ := zs.drop k)
  rw [List.take_append_drop] at h
  exact h
theorem put_srd {zs : List Int} {x : Int} {k : Nat} (h : Srd zs) (hp : PutP zs x k) : Srd (zs.take k ++ x :: zs.drop k) := by
  obtain ⟨h1, h2, h3⟩ := hp
  unfold Srd at *
  have hx1 : ∀ u ∈ zs.take k, u ≤ x := by
    intro u hu
    obtain ⟨j, hj, rfl⟩ := List.mem_iff_getElem.1 hu
    have hjk : j < k ∧ j < zs.length := by simp at hj; omega
    have a1 := srd_get h (i := j) (j := k - 1) (by omega) (by omega)
    have a2 := h3 (k - 1) (by omega)
    have a3 : zs.getD j 0 = (zs.take k)[j] := by simp [List.getD, hjk.2]
    rw [← a3]; omega
  have hx2 : ∀ u ∈ zs.drop k, x ≤ u := by
    intro u hu
    obtain ⟨j, hj, rfl⟩ := List.mem_iff_getElem.1 hu
    have hjk : k + j < zs.length := by simp at hj; omega
    have a1 := h2 (k + j) (by omega) hjk
    have a3 : zs.getD (k + j) 0 = (zs.drop k)[j] := by simp [List.getD, hjk]
    rw [← a3]; omega
  rw [List.pairwise_append]
  refine ⟨h.sublist (List.take_sublist _ _), ?_, ?_⟩
  · rw [List.pairwise_cons]
    exact ⟨hx2, h.sublist (List.drop_sublist _ _)⟩
  · intro u hu v hv
    rcases List.mem_cons.1 hv with rfl | hv
    · exact hx1 u hu
    · exact Int.le_trans (hx1 u hu) (hx2 v hv)
/-- The weights that are there. -/
def posL (ws : List Int) : List Int := ws.filter (fun z => decide (0 < z))
theorem pos_leaves : ∀ (ws : List Int) (i : Nat), (leavesL i ws).map (·.2) = posL ws
  | [], i => rfl
  | z :: r, i => by
    have h := pos_leaves r (i + 1)
    show ((if 0 < z then ((i : Int), z) :: leavesL (i + 1) r else leavesL (i + 1) r)).map (·.2) = (z :: r).filter (fun z => decide (0 < z))
    by_cases hz : 0 < z
    · rw [if_pos hz, List.filter_cons_of_pos (by simpa using hz), List.map_cons, h]; rfl
    · rw [if_neg hz, List.filter_cons_of_neg (by simpa using hz), h]; rfl
theorem pos_step (ws : List Int) (j : Nat) (h : j < ws.length) : posL (ws.take (j + 1)) = if 0 < ws.getD j 0 then posL (ws.take j) ++ [ws.getD j 0] else posL (ws.take j) := by
  have e : ws.take (j + 1) = ws.take j ++ [ws.getD j 0] := by rw [List.take_succ_eq_append_getElem h]; simp [List.getD, h]
  rw [e]
  unfold posL
  rw [List.filter_append]
  by_cases hz : 0 < ws.getD j 0
  · rw [if_pos hz, List.filter_cons_of_pos (by simpa using hz)]; rfl
  · rw [if_neg hz, List.filter_cons_of_neg (by simpa using hz)]; simp
theorem pos_len (ws : List Int) (j : Nat) : (posL (ws.take j)).length ≤ j := Nat.le_trans (List.length_filter_le _ _) (by rw [List.length_take]; omega)
/-- A rising row is its own sort. -/
theorem srd_unique {xs ys : List Int} (h : Srd xs) (k : Srd ys) (hp : xs.Perm ys) : xs = ys := hp.eq_of_pairwise (fun a b _ _ h1 h2 => by omega) h k
/-- Rows as numbers. -/
def vals (T : List It) : List Int := T.map (·.1)
theorem pairs_step (T : List It) (i : Nat) (h : 2 * i + 1 < T.length) : (pairsL T).take (i + 1) = (pairsL T).take i ++ [(vals T).getD (2 * i) 0 + (vals T).getD (2 * i + 1) 0] := by
  induction i generalizing T with
  | zero =>
    match T, h with
    | a :: b :: r, _ => simp [pairsL, vals]
  | succ i ih =>
    match T, h with
    | a :: b :: r, h =>
      have := ih r (by simp at h; omega)
      rw [show pairsL (a :: b :: r) = (a.1 + b.1) :: pairsL r from rfl, List.take_succ_cons, this, List.take_succ_cons]
      rw [show 2 * (i + 1) + 1 = (2 * i + 1) + 1 + 1 by omega, show 2 * (i + 1) = 2 * i + 1 + 1 by omega]
      simp [vals]
/-- One more of the merged row: the lesser, a leaf first. -/
theorem mrg_step_leaf (P ls : List Int) (hl : ls ≠ []) (h : P = [] ∨ ls.getD 0 0 ≤ P.getD 0 0) : vals (mrg P ls) = ls.getD 0 0 :: vals (mrg P ls.tail) := by
  cases ls with
  | nil => exact absurd rfl hl
  | cons z r =>
    cases P with
    | nil => rfl
    | cons w P =>
      have : z ≤ w := by rcases h with h | h; cases h; simpa using h
      rw [mrg_le w z P r this]; rfl
theorem mrg_step_pair (P ls : List Int) (hp : P ≠ []) (h : ls = [] ∨ ¬ ls.getD 0 0 ≤ P.getD 0 0) : vals (mrg P ls) = P.getD 0 0 :: vals (mrg P.tail ls) := by
  cases P with
  | nil => exact absurd rfl hp
  | cons w P =>
    cases ls with
    | nil => rw [mrg_cons_nil]; rfl
    | cons z r =>
      have : ¬ z ≤ w := by rcases h with h | h; cases h; simpa using h
      rw [mrg_gt w z P r this]; rfl
theorem drop_getD0 (l : List Int) (j : Nat) : (l.drop j).getD 0 0 = l.getD j 0 := by simp [List.getD, List.getElem?_drop]
end Go.Proofs.Ytngllecfhkgckaa
