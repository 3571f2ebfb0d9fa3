/-
  strconv.Itoa by the shelf (a seat without num's fields).
-/
import Derived.Test.YtbambcondcikbaaDoorKit
import Derived.Test.YtbambcondcikbaaDoorShelfP
namespace Go.Proofs
open Go.Shelf
set_option linter.unusedVariables false

namespace YtbambcondcikbaaDoor
open Go.RowKit
def Pow10 (w : World) : Prop := Lib.TabIs Tryd.prog w "internal/strconv.uint64pow10" .u64 Lib.pow10Tab
theorem itoa_any (n : Int) (h0 : -9223372036854775808 ≤ n) (h1 : n ≤ 9223372036854775807) (w : World) (htab : Pow10 w) :
    Calls Tryd.prog 30 #[.int .i64 n] w fun e w' => e = .returned (.string ⟨(Lib.itoa n).toArray⟩) ∧ ∃ k os, w' = Sort.grow (w.drewN k) os := Any.strconv_Itoa Tryd.laysItoa n h0 h1 w htab
end YtbambcondcikbaaDoor
end Go.Proofs
