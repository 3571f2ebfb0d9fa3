/-
  Decimal digits, told alone (a seat without strconv).
-/
import Derived.Lib.ItoaMem
import Derived.Test.YtilndmmjdbhmgaaOkP
namespace Go.Proofs.Ytilndmmjdbhmgaa
open Go.Lib
set_option linter.unusedVariables false

theorem dig_toNat (k : Nat) (hk : k < 10) : (UInt8.ofNat (48 + k)).toNat = 48 + k := by
  rw [UInt8.toNat_ofNat']; omega
theorem decDigits_lt {u : Nat} (h : u < 10) : decDigits u = [UInt8.ofNat (48 + u)] := by rw [decDigits, dif_pos h]
theorem decDigits_ge {u : Nat} (h : ¬ u < 10) : decDigits u = decDigits (u / 10) ++ [UInt8.ofNat (48 + u % 10)] := by rw [decDigits, dif_neg h]
theorem decDigits_ne (u : Nat) : decDigits u ≠ [] := by
  intro h
  have := congrArg List.length h
  rw [decDigits] at h
  split at h <;> simp at h
theorem decDigits_all : ∀ (n u : Nat), u ≤ n → ∀ b ∈ decDigits u, 48 ≤ b.toNat ∧ b.toNat ≤ 57 := by
  intro n
  induction n with
  | zero =>
    intro u hu b hb
    rw [decDigits_lt (by omega)] at hb
    simp only [List.mem_singleton] at hb
    subst hb
    rw [dig_toNat u (by omega)]; omega
  | succ n ih =>
    intro u hu b hb
    by_cases h10 : u < 10
    · rw [decDigits_lt h10] at hb
      simp only [List.mem_singleton] at hb
      subst hb
      rw [dig_toNat u h10]; omega
    · rw [decDigits_ge h10] at hb
      rcases List.mem_append.1 hb with h | h
      · exact ih (u / 10) (by omega) b h
      · simp only [List.mem_singleton] at h
        subst h
        rw [dig_toNat (u % 10) (by omega)]; omega
theorem decDigits_len : ∀ (k u : Nat), 1 ≤ k → u < 10 ^ k → (decDigits u).length ≤ k := by
  intro k
  induction k with
  | zero => intro u h; omega
  | succ k ih =>
    intro u _ hu
    by_cases h10 : u < 10
    · rw [decDigits_lt h10]; simp
    · rw [decDigits_ge h10, List.length_append]
      have hk : 1 ≤ k := by
        rcases Nat.eq_zero_or_pos k with h | h
        · subst h; simp at hu; omega
        · exact h
      have := ih (u / 10) hk (by rw [Nat.pow_succ] at hu; omega)
      simp; omega

theorem dec_val : ∀ (n u : Nat), u ≤ n → (decDigits u).foldl (fun (a : Nat) (b : UInt8) => a * 10 + (b.toNat - 48)) 0 = u := by
  intro n
  induction n with
  | zero =>
    intro u hu
    rw [decDigits_lt (by omega), List.foldl_cons, List.foldl_nil, dig_toNat u (by omega)]
    omega
  | succ n ih =>
    intro u hu
    by_cases h10 : u < 10
    · rw [decDigits_lt h10, List.foldl_cons, List.foldl_nil, dig_toNat u h10]
      omega
    · rw [decDigits_ge h10, List.foldl_append, ih (u / 10) (by omega), List.foldl_cons, List.foldl_nil, dig_toNat (u % 10) (by omega)]
      omega
theorem dec_inj {u v : Nat} (h : decDigits u = decDigits v) : u = v := by
  have h1 := dec_val u u (Nat.le_refl _)
  rw [h, dec_val v v (Nat.le_refl _)] at h1
  exact h1.symm
theorem contains_slash (b : UInt8) (h : 48 ≤ b.toNat ∧ b.toNat ≤ 122) : ([47, 0] : List UInt8).contains b = false := by
  have h1 : b ≠ 47 := fun e => by rw [e] at h; exact absurd h.1 (by decide)
  have h2 : b ≠ 0 := fun e => by rw [e] at h; exact absurd h.1 (by decide)
  simp [h1, h2]
/-- A letter and digits are a name. -/
theorem ok_dec (c : UInt8) (hc : 97 ≤ c.toNat ∧ c.toNat ≤ 122) (u : Nat) (hu : u < 1000000) : okN (strB (c :: decDigits u)) = true := by
  have hl := decDigits_len 6 u (by decide) hu
  have hne := decDigits_ne u
  have hi : Lib.indexAny (c :: decDigits u) [47, 0] = -1 := by
    refine Lib.indexAny_none (fun j b hj hb => contains_slash b ?_)
    have hm : b ∈ c :: decDigits u := List.mem_of_getElem? hb
    rcases List.mem_cons.1 hm with e | e
    · subst e; omega
    · have := decDigits_all u u (Nat.le_refl _) b e
      omega
  unfold okN
  rw [strB_list, strB_size, strB_data, hi]
  have h1 : decide ((c :: decDigits u).length ≤ 255) = true := by simp; omega
  have hc1 : c ≠ 46 := fun e => by rw [e] at hc; exact absurd hc.1 (by decide)
  have h2 : ((c :: decDigits u) == [46]) = false := by simp [hc1]
  have h3 : ((c :: decDigits u) == [46, 46]) = false := by simp [hc1]
  rw [h1, h2, h3]
  rfl
end Go.Proofs.Ytilndmmjdbhmgaa
