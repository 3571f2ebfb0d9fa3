/-
  An octal field reads as the number that was put. No Go in sight.
-/
import Derived.Test.YtnhfbpikfkncpaaNumE
namespace Go.Proofs.Ytnhfbpikfkncpaa
set_option linter.unusedVariables false

theorem fld_drop (m : Int) (K j : Nat) (hj : j < K) : (fld (oc m) K K true).drop j = oc m (K - 1 - j) :: (fld (oc m) K K true).drop (j + 1) := by
  have hl : j < (fld (oc m) K K true).length := by rw [fld_len]; omega
  rw [List.drop_eq_getElem_cons hl]
  congr 1
  simp only [fld, List.getElem_map, List.getElem_range, if_true]
  rw [if_pos (by omega)]
theorem fld_last (m : Int) (K : Nat) : (fld (oc m) K K true).drop K = [0] := by
  have hl : K < (fld (oc m) K K true).length := by rw [fld_len]; omega
  rw [List.drop_eq_getElem_cons hl, List.drop_of_length_le (by rw [fld_len]; omega)]
  congr 1
  simp only [fld, List.getElem_map, List.getElem_range, if_true]
  rw [if_neg (by omega)]
theorem rdD_oct (m : Int) (hm : 0 ≤ m) (K : Nat) : ∀ i, i ≤ K → rdD ((fld (oc m) K K true).drop (K - i)) (sh 8 m i).toNat = (m.toNat, [0]) := by
  intro i
  induction i with
  | zero =>
    intro _
    rw [Nat.sub_zero, fld_last]
    exact rdD_no (by omega)
  | succ i ih =>
    intro hi
    have h0 := (sh_nonneg 8 m (by decide) hm i).1
    rw [fld_drop m K (K - (i + 1)) (by omega), show K - 1 - (K - (i + 1)) = i by omega, show K - (i + 1) + 1 = K - i by omega]
    have hoc : 48 ≤ oc m i ∧ oc m i ≤ 55 := by unfold oc; omega
    rw [rdD_yes hoc]
    have e : 8 * (sh 8 m (i + 1)).toNat + (oc m i - 48).toNat = (sh 8 m i).toNat := by
      have h1 : sh 8 m (i + 1) = sh 8 m i / 8 := rfl
      unfold oc
      omega
    rw [e]
    exact ih (by omega)
/-- What an octal field reads as. -/
theorem readS_oct (m : Int) (hm : 0 ≤ m) (K : Nat) (hK : 1 ≤ K ∧ K ≤ 11) (h : sh 8 m K = 0) : readS (fld (oc m) K K true) = (m, true) := by
  have hd0 := fld_drop m K 0 (by omega)
  rw [List.drop_zero] at hd0
  have hoc : 48 ≤ oc m (K - 1 - 0) ∧ oc m (K - 1 - 0) ≤ 55 := by unfold oc; omega
  have hg : (fld (oc m) K K true).getD 0 0 = oc m (K - 1 - 0) := by rw [hd0]; rfl
  rw [readS_in (by rw [fld_len]; omega), hg, if_neg (by omega), if_neg (by omega)]
  have hr := rdD_oct m hm K K (Nat.le_refl _)
  rw [Nat.sub_self, List.drop_zero, h] at hr
  have hsp : spOff (fld (oc m) K K true) = fld (oc m) K K true := by rw [hd0]; exact spOff_no (by omega)
  unfold rdO
  rw [hsp]
  rw [show (0 : Int).toNat = 0 from rfl] at hr
  rw [hr]
  simp [tailOk]
  omega
theorem sh_pow (m : Nat) (t : Nat) : sh 8 (m : Int) t = ((m / 8 ^ t : Nat) : Int) := by
  induction t with
  | zero => simp [sh]
  | succ t ih =>
    unfold sh
    rw [ih, Nat.pow_succ, ← Nat.div_div_eq_div_mul]
    rfl
theorem sh_zero (m K : Nat) : sh 8 (m : Int) K = 0 ↔ m < 8 ^ K := by
  rw [sh_pow]
  have hp : 0 < 8 ^ K := Nat.pow_pos (by decide)
  constructor
  · intro h
    have h' : m / 8 ^ K = 0 := by omega
    exact (Nat.div_eq_zero_iff_lt hp).1 h'
  · intro h
    rw [Nat.div_eq_of_lt h]; rfl
end Go.Proofs.Ytnhfbpikfkncpaa
