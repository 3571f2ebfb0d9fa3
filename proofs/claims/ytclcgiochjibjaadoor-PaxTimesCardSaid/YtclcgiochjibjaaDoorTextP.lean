/-
  On paper: the document's own Time and TimeText.
-/
import Derived.Test.YtclcgiochjibjaaDoorNanoP
namespace Go.Proofs.YtclcgiochjibjaaDoor
open Go.Lib
set_option linter.unusedVariables false

theorem trim_snoc (g : List UInt8) (x c : UInt8) : trimRightB (g ++ [x]) c = if x = c then trimRightB g c else g ++ [x] := by
  unfold trimRightB
  rw [List.reverse_append, List.reverse_singleton, List.singleton_append]
  by_cases h : x = c
  · subst h
    rw [List.dropWhile_cons_of_pos (by simp), if_pos rfl]
  · rw [List.dropWhile_cons_of_neg (by simpa using h), if_neg h]; simp
theorem trim_take (F : List UInt8) (k : Nat) (h : k < F.length) : trimRightB (F.take (k + 1)) 48 = if F.getD k 0 = 48 then trimRightB (F.take k) 48 else F.take (k + 1) := by
  rw [List.take_succ_eq_append_getElem h, trim_snoc]
  simp [List.getD, h]
theorem trim_ne (F : List UInt8) (h : digV F ≠ 0) : trimRightB F 48 ≠ [] := by
  intro e
  have hp := trim_pad F 48
  rw [e, List.nil_append] at hp
  have hz : ∀ n, digV (List.replicate n 48) = 0 := by
    intro n
    induction n with
    | zero => rfl
    | succ n ih =>
      rw [List.replicate_succ', digV_app, ih, digV_one]; rfl
  rw [hp, hz] at h
  exact h rfl

/-- Too much already. -/
theorem dig_big (d : List UInt8) (i : Nat) (hi : i < d.length) (hv : 922337203685477580 < digV (d.take i)) : 9223372036854775808 < digV d := by
  have e : digV d = digV (d.take i) * 10 ^ (d.drop i).length + digV (d.drop i) := by
    conv => lhs; rw [← List.take_append_drop i d]
    rw [digV_app]
  have h1 : 10 ^ 1 ≤ 10 ^ (d.drop i).length := Nat.pow_le_pow_right (by decide) (by rw [List.length_drop]; omega)
  have h2 : digV (d.take i) * 10 ^ 1 ≤ digV (d.take i) * 10 ^ (d.drop i).length := Nat.mul_le_mul_left _ h1
  omega
theorem dig_step (d : List UInt8) (i : Nat) (hi : i < d.length) : digV (d.take (i + 1)) = 10 * digV (d.take i) + ((d.getD i 0).toNat - 48) := by
  rw [List.take_succ_eq_append_getElem hi, digV_app, digV_one]
  simp [List.getD, hi]
  omega
theorem sgn_big {n : Nat} (h : 9223372036854775808 < n) (neg : Bool) : sgnT n neg = (0, false) := by
  unfold sgnT
  cases neg with
  | true => rw [if_pos rfl, if_neg (by omega)]
  | false => rw [if_neg (by decide), if_neg (by omega)]
/-- All digits that the document's Time looks at. -/
theorem mag_digits (wh fr : List UInt8) : digV (wh ++ nine fr) = digV wh * 1000000000 + digV (nine fr) := by
  rw [digV_app, nine_len]
end Go.Proofs.YtclcgiochjibjaaDoor
