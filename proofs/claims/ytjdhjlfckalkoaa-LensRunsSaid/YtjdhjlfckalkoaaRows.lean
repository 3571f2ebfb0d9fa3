/-
  No cell of these rows narrows 'for every input' (looked for: loops, veiled, ifaces, maps, wideKeys, modest, calm, conditions, laid).
  DERIVED. THE GIVEN ROWS OF THIS SEAT. 3 by the template 'for every input the law returns true; each argument reads behind the call as it read before'; 0 by the template 'total and deterministic' (their statements: YtjdhjlfckalkoaaTotals.lean).
  GIVEN WITH THE SEED: the statements are not yours to turn. If you find one false, say at which input.
  Laid BY PROGRAM, IN A SANDBOX (cutbox-rows.mjs): the forced cells as the released guide's own fill.sh prints them over the translation f6213319855bcb49… (all of the seat's roots in one cut). By AI agents, Wed Nov 11 2026. No macro, syntax, notation, axiom, sorry.
-/
import Derived.Test.YtjdhjlfckalkoaaChecked
import GoSem.Claim
import GoSem.ClaimJoined
import GoSem.ClaimMapViews
import Derived.JoinedTies
import Derived.KernelRfl
namespace Go.Proofs.Ytjdhjlfckalkoaa
/- THE CELL 'sum', in the pinned program and in every row, IS THE sha256 OF THE DUMP (.gsa) THAT YtjdhjlfckalkoaaProg.lean LOADS. Nothing in Lean hashes anything: it is a label: what it is worth is what the hold of that sum in a sandbox is worth. -/
noncomputable def Try.pinned : Pinned := { name := "ytjdhjlfckalkoaa", sum := "f6213319855bcb49f2a770c3f7f7c2c942b0cf19ae8d3ede8a9b9d603f7b26e0", checked := Try.checked }
namespace Rows
def none {H : Type} : Left H := { results := [], args := [] }

/-- 'portmanteaulaw8.LensLong': WHATEVER THE INPUT: true; the input reads as it did. -/
def lensLongSpec : ChangeSpec := { name := "lensLong", fn := fun _ => fun
  | [d1, d2] => { results := [.lit (.bool true)], args := [d1, d2] }
  | _ => none }
def lensLongRow : OpenClaim := { program := "ytjdhjlfckalkoaa", sum := "f6213319855bcb49f2a770c3f7f7c2c942b0cf19ae8d3ede8a9b9d603f7b26e0", func := "portmanteau/portmanteaulaw8.LensLong", spec := "lensLong", apart := false }
def LensLongSaid : Prop := lensLongRow.holds Try.pinned (OpenSpec.ofChange lensLongSpec)

/-- ITS FALSE NEIGHBOUR: 'it returns false'. Refute it at one input. -/
def lensLongWrong : ChangeSpec := { name := "lensLong", fn := fun _ => fun
  | [d1, d2] => { results := [.lit (.bool false)], args := [d1, d2] }
  | _ => none }
def LensLongWrongFalsely : Prop := lensLongRow.holds Try.pinned (OpenSpec.ofChange lensLongWrong)

/-- 'portmanteaulaw8.LensFlat': WHATEVER THE INPUT: true; the input reads as it did. -/
def lensFlatSpec : ChangeSpec := { name := "lensFlat", fn := fun _ => fun
  | [d1, d2] => { results := [.lit (.bool true)], args := [d1, d2] }
  | _ => none }
def lensFlatRow : OpenClaim := { program := "ytjdhjlfckalkoaa", sum := "f6213319855bcb49f2a770c3f7f7c2c942b0cf19ae8d3ede8a9b9d603f7b26e0", func := "portmanteau/portmanteaulaw8.LensFlat", spec := "lensFlat", apart := false }
def LensFlatSaid : Prop := lensFlatRow.holds Try.pinned (OpenSpec.ofChange lensFlatSpec)

/-- ITS FALSE NEIGHBOUR: 'it returns false'. Refute it at one input. -/
def lensFlatWrong : ChangeSpec := { name := "lensFlat", fn := fun _ => fun
  | [d1, d2] => { results := [.lit (.bool false)], args := [d1, d2] }
  | _ => none }
def LensFlatWrongFalsely : Prop := lensFlatRow.holds Try.pinned (OpenSpec.ofChange lensFlatWrong)

/-- 'portmanteaulaw8.LensRuns': WHATEVER THE INPUT: true; the input reads as it did. -/
def lensRunsSpec : ChangeSpec := { name := "lensRuns", fn := fun _ => fun
  | [d1, d2] => { results := [.lit (.bool true)], args := [d1, d2] }
  | _ => none }
def lensRunsRow : OpenClaim := { program := "ytjdhjlfckalkoaa", sum := "f6213319855bcb49f2a770c3f7f7c2c942b0cf19ae8d3ede8a9b9d603f7b26e0", func := "portmanteau/portmanteaulaw8.LensRuns", spec := "lensRuns", apart := false }
def LensRunsSaid : Prop := lensRunsRow.holds Try.pinned (OpenSpec.ofChange lensRunsSpec)

/-- ITS FALSE NEIGHBOUR: 'it returns false'. Refute it at one input. -/
def lensRunsWrong : ChangeSpec := { name := "lensRuns", fn := fun _ => fun
  | [d1, d2] => { results := [.lit (.bool false)], args := [d1, d2] }
  | _ => none }
def LensRunsWrongFalsely : Prop := lensRunsRow.holds Try.pinned (OpenSpec.ofChange lensRunsWrong)

/- THE SECOND FORM. 'bulk': how many values and letters a reading holds, each counted each time it is reached (what is shared counts as often as it is met; a slice's spare places count too). A statement '..UptoSaid' is the law's where the arguments, and the package variables that the reading takes, are together of bulk at most 1048576: NARROWER than '..Said'. Prove '..Said' where nothing that the law and all that it calls make is longer than what came in: it says more and counts as full. Else prove '..UptoSaid'. A law counts once. -/
mutual
def uptoBulk {H : Type} : DataW H → Nat
  | .lit (.string bytes) => bytes.length + 1
  | .lit _ => 1
  | .nil => 1
  | .ptr d => uptoBulk d + 1
  | .slice elems spare => uptoBulkAll elems + uptoBulkAll spare + 1
  | .agg parts => uptoBulkAll parts + 1
  | .iface _ d => uptoBulk d + 1
  | .map entries => uptoBulkEntries entries + 1
  | .held _ => 1
def uptoBulkAll {H : Type} : List (DataW H) → Nat
  | [] => 0
  | d :: r => uptoBulk d + uptoBulkAll r
def uptoBulkEntries {H : Type} : List (Lit × DataW H) → Nat
  | [] => 0
  | x :: r => uptoBulkEntry x + uptoBulkEntries r
def uptoBulkEntry {H : Type} : Lit × DataW H → Nat
  | (.string bytes, d) => bytes.length + uptoBulk d + 1
  | (_, d) => uptoBulk d + 1
 end
def uptoSmall : (H : Type) → List (DataW H) → Bool := fun _ ds => decide (uptoBulkAll ds ≤ 1048576)
def OpenSpec.upto (s : _root_.Go.ChangeSpec) : _root_.Go.OpenSpec := { _root_.Go.OpenSpec.ofChange s with cond := some uptoSmall }

/-- 'portmanteaulaw8.LensLong', WHERE WHAT IT READS IS OF BULK AT MOST 1048576: true; the input reads as it did. -/
def lensLongUptoRow : OpenClaim := { program := "ytjdhjlfckalkoaa", sum := "f6213319855bcb49f2a770c3f7f7c2c942b0cf19ae8d3ede8a9b9d603f7b26e0", func := "portmanteau/portmanteaulaw8.LensLong", spec := "lensLong", apart := false, narrowed := true }
def LensLongUptoSaid : Prop := lensLongUptoRow.holds Try.pinned (OpenSpec.upto lensLongSpec)

/-- 'portmanteaulaw8.LensFlat', WHERE WHAT IT READS IS OF BULK AT MOST 1048576: true; the input reads as it did. -/
def lensFlatUptoRow : OpenClaim := { program := "ytjdhjlfckalkoaa", sum := "f6213319855bcb49f2a770c3f7f7c2c942b0cf19ae8d3ede8a9b9d603f7b26e0", func := "portmanteau/portmanteaulaw8.LensFlat", spec := "lensFlat", apart := false, narrowed := true }
def LensFlatUptoSaid : Prop := lensFlatUptoRow.holds Try.pinned (OpenSpec.upto lensFlatSpec)

/-- 'portmanteaulaw8.LensRuns', WHERE WHAT IT READS IS OF BULK AT MOST 1048576: true; the input reads as it did. -/
def lensRunsUptoRow : OpenClaim := { program := "ytjdhjlfckalkoaa", sum := "f6213319855bcb49f2a770c3f7f7c2c942b0cf19ae8d3ede8a9b9d603f7b26e0", func := "portmanteau/portmanteaulaw8.LensRuns", spec := "lensRuns", apart := false, narrowed := true }
def LensRunsUptoSaid : Prop := lensRunsUptoRow.holds Try.pinned (OpenSpec.upto lensRunsSpec)

end Rows
end Go.Proofs.Ytjdhjlfckalkoaa
