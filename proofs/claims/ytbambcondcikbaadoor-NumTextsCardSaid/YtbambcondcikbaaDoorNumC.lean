/-
  num: Field, readWide.
-/
import Derived.Test.YtbambcondcikbaaDoorNumB
namespace Go.Proofs.YtbambcondcikbaaDoor
open Go.RowKit
set_option linter.unusedVariables false
set_option linter.unusedSimpArgs false

def fieldS (n wd : Int) (b : Bool) : List Int × Bool := if (octS n wd).2 = true ∨ b = false then octS n wd else wideS n wd
theorem octS_no (n wd : Int) (h : (octS n wd).2 = false) : octS n wd = ([], false) := by
  unfold octS at h ⊢; split at h
  · cases h
  · rename_i hn; rw [if_neg hn]
end Go.Proofs.YtbambcondcikbaaDoor
