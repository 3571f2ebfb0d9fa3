/-
  Decimal digits: what a number's digits read as; a text is a number's digits, or no number's. No Go in sight.
-/
import Derived.Test.YtbambcondcikbaaDoorItoaP
import Derived.Laws.BytesArg
namespace Go.Proofs.YtbambcondcikbaaDoor
open Go.Lib
set_option linter.unusedVariables false

theorem dig_toNat (k : Nat) (hk : k < 10) : (UInt8.ofNat (48 + k)).toNat = 48 + k := by
  rw [UInt8.toNat_ofNat']; omega
theorem decDigits_lt {u : Nat} (h : u < 10) : decDigits u = [UInt8.ofNat (48 + u)] := by rw [decDigits, dif_pos h]
theorem decDigits_ge {u : Nat} (h : ¬ u < 10) : decDigits u = decDigits (u / 10) ++ [UInt8.ofNat (48 + u % 10)] := by rw [decDigits, dif_neg h]
theorem parse_dig (acc k : Nat) (t : List UInt8) (hk : k < 10) (h : acc * 10 + k < 18446744073709551616) : parseUint10 acc (UInt8.ofNat (48 + k) :: t) = parseUint10 (acc * 10 + k) t := by
  have e := dig_toNat k hk
  simp only [parseUint10]
  rw [e, if_pos (by omega), if_neg (by omega), if_neg (by omega), show 48 + k - 48 = k by omega]
theorem parse_digits : ∀ (n u : Nat) (t : List UInt8), u ≤ n → u < 18446744073709551616 → parseUint10 0 (decDigits u ++ t) = parseUint10 u t := by
  intro n
  induction n with
  | zero =>
    intro u t hu h
    have : u = 0 := by omega
    subst this
    rw [decDigits_lt (by decide)]
    exact parse_dig 0 0 t (by decide) (by decide)
  | succ n ih =>
    intro u t hu h
    by_cases h10 : u < 10
    · rw [decDigits_lt h10]
      have := parse_dig 0 u t h10 (by omega)
      simpa using this
    · rw [decDigits_ge h10, List.append_assoc, ih (u / 10) _ (by omega) (by omega)]
      have := parse_dig (u / 10) (u % 10) t (by omega) (by omega)
      rw [show u / 10 * 10 + u % 10 = u by omega] at this
      exact this
theorem decDigits_ne (u : Nat) : decDigits u ≠ [] := by
  intro h
  have := congrArg List.length h
  rw [decDigits] at h
  split at h <;> simp at h
theorem parseMag_digits (u : Nat) (h : u < 18446744073709551616) : parseMag (decDigits u) = .ok u := by
  unfold parseMag
  rw [if_neg (decDigits_ne u)]
  have := parse_digits u u [] (Nat.le_refl _) h
  rw [List.append_nil] at this
  rw [this]; rfl
theorem decDigits_all : ∀ (n u : Nat), u ≤ n → ∀ b ∈ decDigits u, 48 ≤ b.toNat ∧ b.toNat ≤ 57 := by
  intro n
  induction n with
  | zero =>
    intro u hu b hb
    rw [decDigits_lt (by omega)] at hb
    simp only [List.mem_singleton] at hb
    subst hb
    rw [dig_toNat u (by omega)]; omega
  | succ n ih =>
    intro u hu b hb
    by_cases h10 : u < 10
    · rw [decDigits_lt h10] at hb
      simp only [List.mem_singleton] at hb
      subst hb
      rw [dig_toNat u h10]; omega
    · rw [decDigits_ge h10] at hb
      rcases List.mem_append.1 hb with h | h
      · exact ih (u / 10) (by omega) b h
      · simp only [List.mem_singleton] at h
        subst h
        rw [dig_toNat (u % 10) (by omega)]; omega
theorem decDigits_len : ∀ (k u : Nat), 1 ≤ k → u < 10 ^ k → (decDigits u).length ≤ k := by
  intro k
  induction k with
  | zero => intro u h; omega
  | succ k ih =>
    intro u _ hu
    by_cases h10 : u < 10
    · rw [decDigits_lt h10]; simp
    · rw [decDigits_ge h10, List.length_append]
      have hk : 1 ≤ k := by
        rcases Nat.eq_zero_or_pos k with h | h
        · subst h; simp at hu; omega
        · exact h
      have := ih (u / 10) hk (by rw [Nat.pow_succ] at hu; omega)
      simp; omega
theorem atoi_itoa (v : Int) (h0 : -9223372036854775808 ≤ v) (h1 : v ≤ 9223372036854775807) : atoiAll (itoa v) = .ok v := by
  by_cases hn : v < 0
  · obtain ⟨u, rfl⟩ : ∃ u : Nat, v = -(u : Int) := ⟨v.natAbs, by omega⟩
    rw [itoa_neg u (by omega), atoiAll_minus, parseMag_digits u (by omega)]
    simp only [signed]
    rw [if_neg (by omega)]
  · obtain ⟨u, rfl⟩ : ∃ u : Nat, v = (u : Int) := ⟨v.toNat, by omega⟩
    rw [itoa_nonneg u]
    have hp := parseMag_digits u (by omega)
    have ha := decDigits_all u u (Nat.le_refl _)
    cases hd : decDigits u with
    | nil => exact absurd hd (decDigits_ne u)
    | cons c r =>
      have hc := ha c (by rw [hd]; exact List.mem_cons_self)
      rw [hd] at hp
      rw [atoiAll_plain c r (by omega) (by omega), hp]
      simp only [signless]
      rw [if_neg (by omega)]
/-- The number whose digits a text is. -/
def numL (l : List UInt8) : Int × Bool := match atoiAll l with
  | .ok v => if itoa v = l then (v, true) else (0, false)
  | _ => (0, false)
theorem numL_yes (v : Int) (h0 : -9223372036854775808 ≤ v) (h1 : v ≤ 9223372036854775807) : numL (itoa v) = (v, true) := by
  unfold numL
  rw [atoi_itoa v h0 h1]
  simp only [if_true]
theorem numL_no (l : List UInt8) (h : ∀ v, -9223372036854775808 ≤ v → v ≤ 9223372036854775807 → itoa v ≠ l) : numL l = (0, false) := by
  unfold numL
  cases ha : atoiAll l with
  | ok v =>
    obtain ⟨h0, h1⟩ := atoiAll_bounds ha
    simp only [if_neg (h v h0 h1)]
  | _ => rfl
theorem numL_fst (l : List UInt8) (h : (numL l).2 = false) : (numL l).1 = 0 := by
  unfold numL at h ⊢
  cases ha : atoiAll l with
  | ok v =>
    rw [ha] at h
    simp only at h ⊢
    split at h
    · cases h
    · rename_i hh; rw [if_neg hh]
  | _ => rfl
theorem strOf_bytes (l : List UInt8) : strOfNums (l.map fun b => (b.toNat : Int)) = ⟨l.toArray⟩ := by
  apply ByteArray.ext
  apply Array.ext'
  rw [strOfNums_data, List.map_map]
  have : (fun n : Int => UInt8.ofNat n.toNat) ∘ (fun b : UInt8 => (b.toNat : Int)) = id := by
    funext b; simp
  rw [this]; simp
theorem size_bytes (l : List UInt8) : (⟨l.toArray⟩ : ByteArray).size = l.length := rfl
end Go.Proofs.YtbambcondcikbaaDoor
