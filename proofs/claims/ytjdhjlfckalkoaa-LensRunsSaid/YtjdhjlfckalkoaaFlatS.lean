/-
  Lengths told by runs: what a run more makes; what all make. No Go in sight.
-/
import Derived.Test.YtjdhjlfckalkoaaInts
namespace Go.Proofs.Ytjdhjlfckalkoaa
set_option linter.unusedVariables false

/-- How often a symbol's value stands at least, how many more it may, and what it is. -/
def spanL (s : Int) : Nat := if s = 16 then 3 else if s = 17 then 3 else if s = 18 then 11 else 1
def spanB (s : Int) : Nat := if s = 16 then 2 else if s = 17 then 3 else if s = 18 then 7 else 0
def spanM (s : Int) : Int := if s = 16 then 3 else if s = 17 then 7 else if s = 18 then 127 else 0
def valS (l : List Int) (s : Int) : Int := if s = 16 then l.getD (l.length - 1) 0 else if 16 < s then 0 else s
/-- May a run stand behind l? -/
def okRun (l : List Int) (s x : Int) : Prop := 0 ≤ s ∧ s ≤ 18 ∧ 0 ≤ x ∧ x ≤ spanM s ∧ (s = 16 → l ≠ [])
instance (l : List Int) (s x : Int) : Decidable (okRun l s x) := by unfold okRun; infer_instance
def moreL (l : List Int) (s x : Int) : List Int := l ++ List.replicate (spanL s + x.toNat) (valS l s)
theorem moreL_len (l : List Int) (s x : Int) : (moreL l s x).length = l.length + (spanL s + x.toNat) := by simp [moreL]
/-- All runs behind l, of no more than n lengths. -/
def runAll (n : Int) : List Int → List (Int × Int) → Option (List Int)
  | l, [] => some l
  | l, (s, x) :: r => if okRun l s x ∧ ((moreL l s x).length : Int) ≤ n then runAll n (moreL l s x) r else none
/-- What Flat tells: the lengths and the error. -/
def flatS (n : Int) (rs : List (Int × Int)) : List Int × Int :=
  if n < 0 ∨ 320 < n then ([], 1) else match runAll n [] rs with
    | some l => if (l.length : Int) = n then (l, 0) else ([], 6)
    | none => ([], 6)
theorem runAll_len (n : Int) : ∀ (rs : List (Int × Int)) (l xs : List Int), (l.length : Int) ≤ n → runAll n l rs = some xs → (xs.length : Int) ≤ n := by
  intro rs
  induction rs with
  | nil => intro l xs hl h; cases h; exact hl
  | cons r rs ih =>
    intro l xs hl h
    obtain ⟨s, x⟩ := r
    unfold runAll at h
    split at h
    · rename_i hc; exact ih _ _ hc.2 h
    · cases h
theorem valS_lt (l : List Int) (hl : ∀ z ∈ l, 0 ≤ z ∧ z ≤ 15) (s : Int) (h : 0 ≤ s ∧ s ≤ 18) : 0 ≤ valS l s ∧ valS l s ≤ 15 := by
  unfold valS
  split
  · by_cases h0 : l.length - 1 < l.length
    · have : l.getD (l.length - 1) 0 = l[l.length - 1] := by simp [List.getD, h0]
      rw [this]; exact hl _ (List.getElem_mem h0)
    · have : l.getD (l.length - 1) 0 = 0 := by simp [List.getD, List.getElem?_eq_none (Nat.le_of_not_lt h0)]
      omega
  · split <;> omega
end Go.Proofs.Ytjdhjlfckalkoaa
