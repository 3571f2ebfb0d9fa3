/-
  Tokens in memory.
-/
import Derived.Test.YtifoldonmmobpaaDoorTokA
namespace Go.Proofs.YtifoldonmmobpaaDoor
open Go.RowKit
set_option linter.unusedVariables false
set_option linter.unusedSimpArgs false

/-- Tokens in memory, three cells each. -/
def Toks (w : World) (ao : Option Addr) (ts : List Tk) : Prop :=
  ∀ i, i < ts.length → ∃ b off, ao = some ⟨b, off, none⟩ ∧ w.cell? ⟨b, off + i * 3, none⟩ = some (.int .i64 (ts.getD i ⟨0, 0, 0⟩).l) ∧ w.cell? ⟨b, off + i * 3 + 1, none⟩ = some (.int .i64 (ts.getD i ⟨0, 0, 0⟩).d) ∧ w.cell? ⟨b, off + i * 3 + 2, none⟩ = some (.int .u8 (ts.getD i ⟨0, 0, 0⟩).c)
theorem Toks.keptNo {w w' : World} {ao : Option Addr} {ts : List Tk} (h : Toks w ao ts) (hk : Kept NoB w w') : Toks w' ao ts := by
  intro i hi
  obtain ⟨b, off, h1, h2, h3, h4⟩ := h i hi
  exact ⟨b, off, h1, hk.cell h2, hk.cell h3, hk.cell h4⟩
end Go.Proofs.YtifoldonmmobpaaDoor
