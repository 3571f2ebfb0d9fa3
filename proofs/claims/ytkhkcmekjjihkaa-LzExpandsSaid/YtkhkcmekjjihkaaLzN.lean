/-
  Symbols of lengths and of distances, in numbers. No Go in sight.
-/
import Derived.WalkKit
namespace Go.Proofs.Ytkhkcmekjjihkaa
set_option linter.unusedVariables false

def ge (s i : Nat) : Nat := i / s - 1
def gb (s i : Nat) : Nat := if i / s - 1 = 0 then i else (s + i % s) * 2 ^ (i / s - 1)
/-- The least length, and how many extra bits, of symbol 257 + i; the least distance of symbol i. -/
def lb (i : Nat) : Nat := 3 + gb 4 i
def le4 (i : Nat) : Nat := ge 4 i
def db (i : Nat) : Nat := 1 + gb 2 i
def de (i : Nat) : Nat := ge 2 i

theorem lb_next : ∀ i, i < 28 → ∀ l, l < 28 → l < i → lb l + 2 ^ le4 l ≤ lb i := by decide
theorem db_next : ∀ i, i < 30 → ∀ l, l < 30 → l < i → db l + 2 ^ de l ≤ db i := by decide
theorem lb_step : ∀ i, i < 27 → lb (i + 1) = lb i + 2 ^ le4 i := by decide
theorem db_step : ∀ i, i < 29 → db (i + 1) = db i + 2 ^ de i := by decide
theorem lb_top : ∀ i, i < 28 → lb i + 2 ^ le4 i ≤ 259 ∧ (i < 27 → lb i + 2 ^ le4 i ≤ 227) ∧ 3 ≤ lb i ∧ le4 i ≤ 5 := by decide
theorem db_top : ∀ i, i < 30 → db i + 2 ^ de i ≤ 32769 ∧ 1 ≤ db i ∧ de i ≤ 13 := by decide
theorem lb0 : lb 0 = 3 := by decide
theorem db0 : db 0 = 1 := by decide
theorem lb27 : lb 27 = 227 := by decide
theorem le27 : le4 27 = 5 := by decide
/-- A length's symbol is the one whose lengths hold it. -/
theorem lb_only (i l v : Nat) (hi : i < 28) (hl : l < 28) (hv : v < 2 ^ le4 i) (h1 : lb l ≤ lb i + v) (h2 : l < 27 → lb i + v < lb (l + 1)) : l = i := by
  rcases Nat.lt_trichotomy l i with h | h | h
  · exfalso
    have a := lb_next i hi l hl h
    have b := h2 (by omega)
    rw [lb_step l (by omega)] at b
    omega
  · exact h
  · exfalso
    have a := lb_next l hl i hi h
    omega
theorem db_only (i l v : Nat) (hi : i < 30) (hl : l < 30) (hv : v < 2 ^ de i) (h1 : db l ≤ db i + v) (h2 : l < 29 → db i + v < db (l + 1)) : l = i := by
  rcases Nat.lt_trichotomy l i with h | h | h
  · exfalso
    have a := db_next i hi l hl h
    have b := h2 (by omega)
    rw [db_step l (by omega)] at b
    omega
  · exact h
  · exfalso
    have a := db_next l hl i hi h
    omega
end Go.Proofs.Ytkhkcmekjjihkaa
