/-
  Numbers in fields: digits by shifts; what a field reads as. No Go in sight.
-/
import Derived.Test.YtnhfbpikfkncpaaKit
namespace Go.Proofs.Ytnhfbpikfkncpaa
set_option linter.unusedVariables false

/-- n shifted t times. -/
def sh (d n : Int) : Nat → Int
  | 0 => n
  | t + 1 => sh d n t / d
theorem sh_nonneg (d n : Int) (hd : 0 < d) (hn : 0 ≤ n) (t : Nat) : 0 ≤ sh d n t ∧ sh d n t ≤ n := by
  induction t with
  | zero => exact ⟨hn, Int.le_refl _⟩
  | succ t ih =>
    refine ⟨Int.ediv_nonneg ih.1 (Int.le_of_lt hd), Int.le_trans (Int.ediv_le_self _ ih.1) ih.2⟩
theorem sh_range (n : Int) (t : Nat) (lo hi : Int) (hlo : lo ≤ 0) (hhi : 0 ≤ hi) (h : lo ≤ n ∧ n ≤ hi) : lo ≤ sh 256 n t ∧ sh 256 n t ≤ hi := by
  induction t with
  | zero => exact h
  | succ t ih => unfold sh; omega
/-- A field of K places and one more: of the last t of the K, place p holds 'f' of n shifted as often as there are places behind it. -/
def fld (c : Nat → Int) (K t : Nat) (last : Bool) : List Int := (List.range (K + 1)).map fun p => if last = true then (if K - t ≤ p ∧ p < K then c (K - 1 - p) else 0) else (if K - t < p then c (K - p) else 0)
theorem fld_len (c : Nat → Int) (K t : Nat) (b : Bool) : (fld c K t b).length = K + 1 := by simp [fld]
theorem fld_zero (c : Nat → Int) (K : Nat) (b : Bool) : fld c K 0 b = List.replicate (K + 1) 0 := by
  apply List.ext_getElem
  · simp [fld]
  · intro i h1 h2
    have hi : i < K + 1 := by simpa [fld] using h1
    simp only [fld, List.getElem_map, List.getElem_range, List.getElem_replicate]
    cases b
    · simp; intro h; omega
    · simp; intro h; omega
theorem fld_octal (c : Nat → Int) (K t : Nat) (ht : t < K) : (fld c K t true).set (K - 1 - t) (c t) = fld c K (t + 1) true := by
  apply List.ext_getElem
  · simp [fld]
  · intro i h1 h2
    rw [List.getElem_set]
    simp only [fld, List.getElem_map, List.getElem_range, if_true]
    by_cases e : K - 1 - t = i
    · subst e
      rw [if_pos rfl, if_pos (by omega), show K - 1 - (K - 1 - t) = t by omega]
    · rw [if_neg e]
      by_cases h : K - t ≤ i ∧ i < K
      · rw [if_pos h, if_pos (by omega)]
      · rw [if_neg h, if_neg (by omega)]
theorem fld_wide (c : Nat → Int) (K t : Nat) (ht : t < K) : (fld c K t false).set (K - t) (c t) = fld c K (t + 1) false := by
  apply List.ext_getElem
  · simp [fld]
  · intro i h1 h2
    have hi : i < K + 1 := by simpa [fld] using h2
    rw [List.getElem_set]
    simp only [fld, List.getElem_map, List.getElem_range, Bool.false_eq_true, if_false]
    by_cases e : K - t = i
    · subst e
      rw [if_pos rfl, if_pos (by omega), show K - (K - t) = t by omega]
    · rw [if_neg e]
      by_cases h : K - t < i
      · rw [if_pos h, if_pos (by omega)]
      · rw [if_neg h, if_neg (by omega)]
theorem fld_all (c : Nat → Int) (hc : ∀ t, 0 ≤ c t ∧ c t < 256) (K t : Nat) (b : Bool) : AllB (fld c K t b) := by
  intro x hx
  simp only [fld, List.mem_map, List.mem_range] at hx
  obtain ⟨i, _, rfl⟩ := hx
  have := hc (K - 1 - i); have := hc (K - i)
  split <;> split <;> omega

/-- The digits of an octal field; the bytes of a wide one. -/
def oc (n : Int) (t : Nat) : Int := 48 + sh 8 n t % 8
def wc8 (n : Int) (t : Nat) : Int := sh 256 n t % 256
theorem oc_lt (n : Int) (t : Nat) : 0 ≤ oc n t ∧ oc n t < 256 := by unfold oc; omega
theorem wc8_lt (n : Int) (t : Nat) : 0 ≤ wc8 n t ∧ wc8 n t < 256 := by unfold wc8; omega
def octS (n wd : Int) : List Int × Bool :=
  if 2 ≤ wd ∧ wd ≤ 12 ∧ 0 ≤ n ∧ sh 8 n (wd.toNat - 1) = 0 then (fld (oc n) (wd.toNat - 1) (wd.toNat - 1) true, true) else ([], false)
def wideS (n wd : Int) : List Int × Bool :=
  if 2 ≤ wd ∧ wd ≤ 12 ∧ (if n < 0 then sh 256 n (wd.toNat - 1) = -1 else sh 256 n (wd.toNat - 1) = 0) then ((fld (wc8 n) (wd.toNat - 1) (wd.toNat - 1) false).set 0 (if n < 0 then 255 else 128), true) else ([], false)

/-- Blanks ahead are passed over; digits are taken, as far as there are; what may stand behind. -/
def spOff : List Int → List Int
  | [] => []
  | b :: r => if b = 32 then spOff r else b :: r
def rdD : List Int → Nat → Nat × List Int
  | [], n => (n, [])
  | b :: r, n => if 48 ≤ b ∧ b ≤ 55 then rdD r (8 * n + (b - 48).toNat) else (n, b :: r)
def tailOk : List Int → Bool
  | [] => true
  | b :: r => (b == 0 || b == 32) && tailOk r
end Go.Proofs.Ytnhfbpikfkncpaa
