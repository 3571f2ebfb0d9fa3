/-
  A wide field reads as the number that was put; fields as rows that grow at their head. No Go in sight.
-/
import Derived.Test.YtnhfbpikfkncpaaOctM
namespace Go.Proofs.Ytnhfbpikfkncpaa
set_option linter.unusedVariables false

/-- f of t - 1, .., 0. -/
def pre (f : Nat → Int) : Nat → List Int
  | 0 => []
  | t + 1 => f t :: pre f t
theorem pre_len (f : Nat → Int) (t : Nat) : (pre f t).length = t := by
  induction t with
  | zero => rfl
  | succ t ih => simp [pre, ih]
theorem pre_get (f : Nat → Int) (t i : Nat) (h : i < (pre f t).length) : (pre f t)[i] = f (t - 1 - i) := by
  induction t generalizing i with
  | zero => simp [pre] at h
  | succ t ih =>
    cases i with
    | zero => simp [pre]
    | succ i =>
      have h' : i < (pre f t).length := by simpa [pre] using h
      have hl := pre_len f t
      simp only [pre, List.getElem_cons_succ]
      rw [ih i h']
      congr 1
      omega
theorem fld_pre (f : Nat → Int) (K : Nat) : fld f K K true = pre f K ++ [0] := by
  apply List.ext_getElem
  · rw [fld_len, List.length_append, pre_len]; rfl
  · intro i h1 h2
    simp only [fld, List.getElem_map, List.getElem_range, if_true]
    by_cases h : i < K
    · rw [if_pos ⟨by omega, h⟩, List.getElem_append_left (by rw [pre_len]; exact h), pre_get]
    · rw [if_neg (by omega), List.getElem_append_right (by rw [pre_len]; omega)]
      simp
theorem fldw_pre (f : Nat → Int) (K : Nat) (m : Int) : (fld f K K false).set 0 m = m :: pre f K := by
  apply List.ext_getElem
  · rw [List.length_set, fld_len, List.length_cons, pre_len]
  · intro i h1 h2
    rw [List.getElem_set]
    cases i with
    | zero => simp
    | succ i =>
      rw [if_neg (by omega), List.getElem_cons_succ, pre_get]
      simp only [fld, List.getElem_map, List.getElem_range, Bool.false_eq_true, if_false]
      rw [if_pos (by omega)]
      congr 1
      omega
theorem rdW_pre (n : Int) (hn : -9223372036854775808 ≤ n ∧ n ≤ 9223372036854775807) : ∀ i, rdW (pre (wc8 n) i) (sh 256 n i) = (n, true) := by
  intro i
  induction i with
  | zero => rfl
  | succ i ih =>
    have h1 := sh_range n i _ _ (by decide) (by decide) hn
    have h2 : sh 256 n (i + 1) = sh 256 n i / 256 := rfl
    unfold pre rdW
    rw [if_neg (by omega)]
    have e : sh 256 n (i + 1) * 256 + wc8 n i = sh 256 n i := by unfold wc8; omega
    rw [e]
    exact ih
/-- What a wide field reads as. -/
theorem readS_wide (n : Int) (hn : -9223372036854775808 ≤ n ∧ n ≤ 9223372036854775807) (K : Nat) (hK : 1 ≤ K ∧ K ≤ 11) (h : if n < 0 then sh 256 n K = -1 else sh 256 n K = 0) : readS ((fld (wc8 n) K K false).set 0 (if n < 0 then 255 else 128)) = (n, true) := by
  have hp := rdW_pre n hn K
  rw [fldw_pre, readS_in (by rw [List.length_cons, pre_len]; omega), List.getD_cons_zero, List.drop_succ_cons, List.drop_zero]
  by_cases h0 : n < 0
  · rw [if_pos h0] at h ⊢
    rw [if_neg (by decide), if_pos rfl, ← h]
    exact hp
  · rw [if_neg h0] at h ⊢
    rw [if_pos rfl, ← h]
    exact hp
/-- What is put into a field reads as the number. -/
theorem readS_field (n : Int) (hn : -9223372036854775808 ≤ n ∧ n ≤ 9223372036854775807) (wd : Int) (b : Bool) (h : (fieldS n wd b).2 = true) : readS (fieldS n wd b).1 = (n, true) := by
  have hoct : (octS n wd).2 = true → readS (octS n wd).1 = (n, true) := fun h => by
    unfold octS at h ⊢
    split at h
    · rename_i h2
      rw [if_pos h2]
      exact readS_oct n h2.2.2.1 _ (by omega) h2.2.2.2
    · cases h
  have hwide : (wideS n wd).2 = true → readS (wideS n wd).1 = (n, true) := fun h => by
    by_cases h2 : 2 ≤ wd ∧ wd ≤ 12 ∧ (if n < 0 then sh 256 n (wd.toNat - 1) = -1 else sh 256 n (wd.toNat - 1) = 0)
    · have e : wideS n wd = ((fld (wc8 n) (wd.toNat - 1) (wd.toNat - 1) false).set 0 (if n < 0 then 255 else 128), true) := if_pos h2
      rw [e]
      exact readS_wide n hn _ (by omega) h2.2.2
    · have e : wideS n wd = ([], false) := if_neg h2
      rw [e] at h
      cases h
  unfold fieldS at h ⊢
  split at h
  · rename_i h2; rw [if_pos h2]; exact hoct h
  · rename_i h2; rw [if_neg h2]; exact hwide h
theorem octS_pre (n wd : Int) (h : 2 ≤ wd ∧ wd ≤ 12 ∧ 0 ≤ n) : octS n wd = if sh 8 n (wd.toNat - 1) = 0 then (pre (oc n) (wd.toNat - 1) ++ [0], true) else ([], false) := by
  unfold octS
  rw [fld_pre]
  by_cases h0 : sh 8 n (wd.toNat - 1) = 0
  · rw [if_pos ⟨h.1, h.2.1, h.2.2, h0⟩, if_pos h0]
  · rw [if_neg (fun hh => h0 hh.2.2.2), if_neg h0]
theorem octS_out (n wd : Int) (h : ¬ (2 ≤ wd ∧ wd ≤ 12 ∧ 0 ≤ n)) : octS n wd = ([], false) := by
  unfold octS; rw [if_neg (fun hh => h ⟨hh.1, hh.2.1, hh.2.2.1⟩)]
theorem wideS_pre (n wd : Int) (h : 2 ≤ wd ∧ wd ≤ 12) : wideS n wd = if (if n < 0 then sh 256 n (wd.toNat - 1) = -1 else sh 256 n (wd.toNat - 1) = 0) then ((if n < 0 then 255 else 128) :: pre (wc8 n) (wd.toNat - 1), true) else ([], false) := by
  rw [← fldw_pre]
  by_cases h0 : (if n < 0 then sh 256 n (wd.toNat - 1) = -1 else sh 256 n (wd.toNat - 1) = 0)
  · exact (if_pos (c := 2 ≤ wd ∧ wd ≤ 12 ∧ (if n < 0 then sh 256 n (wd.toNat - 1) = -1 else sh 256 n (wd.toNat - 1) = 0)) ⟨h.1, h.2, h0⟩).trans (if_pos h0).symm
  · exact (if_neg (c := 2 ≤ wd ∧ wd ≤ 12 ∧ (if n < 0 then sh 256 n (wd.toNat - 1) = -1 else sh 256 n (wd.toNat - 1) = 0)) (fun hh => h0 hh.2.2)).trans (if_neg h0).symm
theorem wideS_out (n wd : Int) (h : ¬ (2 ≤ wd ∧ wd ≤ 12)) : wideS n wd = ([], false) := if_neg (fun hh => h ⟨hh.1, hh.2.1⟩)
end Go.Proofs.Ytnhfbpikfkncpaa
