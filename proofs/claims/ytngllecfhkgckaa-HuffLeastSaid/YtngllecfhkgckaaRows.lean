/-
  No cell of these rows narrows 'for every input' (looked for: loops, veiled, ifaces, maps, wideKeys, modest, calm, conditions, laid).
  DERIVED. THE GIVEN ROWS OF THIS SEAT. 5 by the template 'for every input the law returns true; each argument reads behind the call as it read before'; 0 by the template 'total and deterministic' (their statements: YtngllecfhkgckaaTotals.lean).
  GIVEN WITH THE SEED: the statements are not yours to turn. If you find one false, say at which input.
  Laid BY PROGRAM, IN A SANDBOX (cutbox-rows.mjs): the forced cells as the released guide's own fill.sh prints them over the translation 5b60267a22e27b55… (all of the seat's roots in one cut). By AI agents, Wed Nov 11 2026. No macro, syntax, notation, axiom, sorry.
-/
import Derived.Test.YtngllecfhkgckaaChecked
import GoSem.Claim
import GoSem.ClaimJoined
import GoSem.ClaimMapViews
import Derived.JoinedTies
import Derived.KernelRfl
namespace Go.Proofs.Ytngllecfhkgckaa
/- THE CELL 'sum', in the pinned program and in every row, IS THE sha256 OF THE DUMP (.gsa) THAT YtngllecfhkgckaaProg.lean LOADS. Nothing in Lean hashes anything: it is a label: what it is worth is what the hold of that sum in a sandbox is worth. -/
noncomputable def Try.pinned : Pinned := { name := "ytngllecfhkgckaa", sum := "5b60267a22e27b551fd5dc26013ca65fa421e51cd8bf6b71487a68653bdce40a", checked := Try.checked }
namespace Rows
def none {H : Type} : Left H := { results := [], args := [] }

/-- 'portmanteaulaw4.HuffTight': WHATEVER THE INPUT: true; the input reads as it did. -/
def huffTightSpec : ChangeSpec := { name := "huffTight", fn := fun _ => fun
  | [d1, d2] => { results := [.lit (.bool true)], args := [d1, d2] }
  | _ => none }
def huffTightRow : OpenClaim := { program := "ytngllecfhkgckaa", sum := "5b60267a22e27b551fd5dc26013ca65fa421e51cd8bf6b71487a68653bdce40a", func := "portmanteau/portmanteaulaw4.HuffTight", spec := "huffTight", unfollowed := true, recurses := true, apart := false }
def HuffTightSaid : Prop := huffTightRow.holds Try.pinned (OpenSpec.ofChange huffTightSpec)

/-- ITS FALSE NEIGHBOUR: 'it returns false'. Refute it at one input. -/
def huffTightWrong : ChangeSpec := { name := "huffTight", fn := fun _ => fun
  | [d1, d2] => { results := [.lit (.bool false)], args := [d1, d2] }
  | _ => none }
def HuffTightWrongFalsely : Prop := huffTightRow.holds Try.pinned (OpenSpec.ofChange huffTightWrong)

/-- 'portmanteaulaw4.HuffLimits': WHATEVER THE INPUT: true; the input reads as it did. -/
def huffLimitsSpec : ChangeSpec := { name := "huffLimits", fn := fun _ => fun
  | [d1, d2, d3] => { results := [.lit (.bool true)], args := [d1, d2, d3] }
  | _ => none }
def huffLimitsRow : OpenClaim := { program := "ytngllecfhkgckaa", sum := "5b60267a22e27b551fd5dc26013ca65fa421e51cd8bf6b71487a68653bdce40a", func := "portmanteau/portmanteaulaw4.HuffLimits", spec := "huffLimits", unfollowed := true, recurses := true, apart := false }
def HuffLimitsSaid : Prop := huffLimitsRow.holds Try.pinned (OpenSpec.ofChange huffLimitsSpec)

/-- ITS FALSE NEIGHBOUR: 'it returns false'. Refute it at one input. -/
def huffLimitsWrong : ChangeSpec := { name := "huffLimits", fn := fun _ => fun
  | [d1, d2, d3] => { results := [.lit (.bool false)], args := [d1, d2, d3] }
  | _ => none }
def HuffLimitsWrongFalsely : Prop := huffLimitsRow.holds Try.pinned (OpenSpec.ofChange huffLimitsWrong)

/-- 'portmanteaulaw4.HuffLeast': WHATEVER THE INPUT: true; the input reads as it did. -/
def huffLeastSpec : ChangeSpec := { name := "huffLeast", fn := fun _ => fun
  | [d1, d2] => { results := [.lit (.bool true)], args := [d1, d2] }
  | _ => none }
def huffLeastRow : OpenClaim := { program := "ytngllecfhkgckaa", sum := "5b60267a22e27b551fd5dc26013ca65fa421e51cd8bf6b71487a68653bdce40a", func := "portmanteau/portmanteaulaw4.HuffLeast", spec := "huffLeast", unfollowed := true, recurses := true, apart := false }
def HuffLeastSaid : Prop := huffLeastRow.holds Try.pinned (OpenSpec.ofChange huffLeastSpec)

/-- ITS FALSE NEIGHBOUR: 'it returns false'. Refute it at one input. -/
def huffLeastWrong : ChangeSpec := { name := "huffLeast", fn := fun _ => fun
  | [d1, d2] => { results := [.lit (.bool false)], args := [d1, d2] }
  | _ => none }
def HuffLeastWrongFalsely : Prop := huffLeastRow.holds Try.pinned (OpenSpec.ofChange huffLeastWrong)

/-- 'portmanteaulaw4.HuffEven': WHATEVER THE INPUT: true; the input reads as it did. -/
def huffEvenSpec : ChangeSpec := { name := "huffEven", fn := fun _ => fun
  | [d1, d2, d3] => { results := [.lit (.bool true)], args := [d1, d2, d3] }
  | _ => none }
def huffEvenRow : OpenClaim := { program := "ytngllecfhkgckaa", sum := "5b60267a22e27b551fd5dc26013ca65fa421e51cd8bf6b71487a68653bdce40a", func := "portmanteau/portmanteaulaw4.HuffEven", spec := "huffEven", unfollowed := true, recurses := true, apart := false }
def HuffEvenSaid : Prop := huffEvenRow.holds Try.pinned (OpenSpec.ofChange huffEvenSpec)

/-- ITS FALSE NEIGHBOUR: 'it returns false'. Refute it at one input. -/
def huffEvenWrong : ChangeSpec := { name := "huffEven", fn := fun _ => fun
  | [d1, d2, d3] => { results := [.lit (.bool false)], args := [d1, d2, d3] }
  | _ => none }
def HuffEvenWrongFalsely : Prop := huffEvenRow.holds Try.pinned (OpenSpec.ofChange huffEvenWrong)

/-- 'portmanteaulaw4.HuffCosts': WHATEVER THE INPUT: true; the input reads as it did. -/
def huffCostsSpec : ChangeSpec := { name := "huffCosts", fn := fun _ => fun
  | [d1, d2] => { results := [.lit (.bool true)], args := [d1, d2] }
  | _ => none }
def huffCostsRow : OpenClaim := { program := "ytngllecfhkgckaa", sum := "5b60267a22e27b551fd5dc26013ca65fa421e51cd8bf6b71487a68653bdce40a", func := "portmanteau/portmanteaulaw4.HuffCosts", spec := "huffCosts", unfollowed := true, recurses := true, apart := false }
def HuffCostsSaid : Prop := huffCostsRow.holds Try.pinned (OpenSpec.ofChange huffCostsSpec)

/-- ITS FALSE NEIGHBOUR: 'it returns false'. Refute it at one input. -/
def huffCostsWrong : ChangeSpec := { name := "huffCosts", fn := fun _ => fun
  | [d1, d2] => { results := [.lit (.bool false)], args := [d1, d2] }
  | _ => none }
def HuffCostsWrongFalsely : Prop := huffCostsRow.holds Try.pinned (OpenSpec.ofChange huffCostsWrong)

/- THE SECOND FORM. 'bulk': how many values and letters a reading holds, each counted each time it is reached (what is shared counts as often as it is met; a slice's spare places count too). A statement '..UptoSaid' is the law's where the arguments, and the package variables that the reading takes, are together of bulk at most 1048576: NARROWER than '..Said'. Prove '..Said' where nothing that the law and all that it calls make is longer than what came in: it says more and counts as full. Else prove '..UptoSaid'. A law counts once. -/
mutual
def uptoBulk {H : Type} : DataW H → Nat
  | .lit (.string bytes) => bytes.length + 1
  | .lit _ => 1
  | .nil => 1
  | .ptr d => uptoBulk d + 1
  | .slice elems spare => uptoBulkAll elems + uptoBulkAll spare + 1
  | .agg parts => uptoBulkAll parts + 1
  | .iface _ d => uptoBulk d + 1
  | .map entries => uptoBulkEntries entries + 1
  | .held _ => 1
def uptoBulkAll {H : Type} : List (DataW H) → Nat
  | [] => 0
  | d :: r => uptoBulk d + uptoBulkAll r
def uptoBulkEntries {H : Type} : List (Lit × DataW H) → Nat
  | [] => 0
  | x :: r => uptoBulkEntry x + uptoBulkEntries r
def uptoBulkEntry {H : Type} : Lit × DataW H → Nat
  | (.string bytes, d) => bytes.length + uptoBulk d + 1
  | (_, d) => uptoBulk d + 1
 end
def uptoSmall : (H : Type) → List (DataW H) → Bool := fun _ ds => decide (uptoBulkAll ds ≤ 1048576)
def OpenSpec.upto (s : _root_.Go.ChangeSpec) : _root_.Go.OpenSpec := { _root_.Go.OpenSpec.ofChange s with cond := some uptoSmall }

/-- 'portmanteaulaw4.HuffTight', WHERE WHAT IT READS IS OF BULK AT MOST 1048576: true; the input reads as it did. -/
def huffTightUptoRow : OpenClaim := { program := "ytngllecfhkgckaa", sum := "5b60267a22e27b551fd5dc26013ca65fa421e51cd8bf6b71487a68653bdce40a", func := "portmanteau/portmanteaulaw4.HuffTight", spec := "huffTight", unfollowed := true, recurses := true, apart := false, narrowed := true }
def HuffTightUptoSaid : Prop := huffTightUptoRow.holds Try.pinned (OpenSpec.upto huffTightSpec)

/-- 'portmanteaulaw4.HuffLimits', WHERE WHAT IT READS IS OF BULK AT MOST 1048576: true; the input reads as it did. -/
def huffLimitsUptoRow : OpenClaim := { program := "ytngllecfhkgckaa", sum := "5b60267a22e27b551fd5dc26013ca65fa421e51cd8bf6b71487a68653bdce40a", func := "portmanteau/portmanteaulaw4.HuffLimits", spec := "huffLimits", unfollowed := true, recurses := true, apart := false, narrowed := true }
def HuffLimitsUptoSaid : Prop := huffLimitsUptoRow.holds Try.pinned (OpenSpec.upto huffLimitsSpec)

/-- 'portmanteaulaw4.HuffLeast', WHERE WHAT IT READS IS OF BULK AT MOST 1048576: true; the input reads as it did. -/
def huffLeastUptoRow : OpenClaim := { program := "ytngllecfhkgckaa", sum := "5b60267a22e27b551fd5dc26013ca65fa421e51cd8bf6b71487a68653bdce40a", func := "portmanteau/portmanteaulaw4.HuffLeast", spec := "huffLeast", unfollowed := true, recurses := true, apart := false, narrowed := true }
def HuffLeastUptoSaid : Prop := huffLeastUptoRow.holds Try.pinned (OpenSpec.upto huffLeastSpec)

/-- 'portmanteaulaw4.HuffEven', WHERE WHAT IT READS IS OF BULK AT MOST 1048576: true; the input reads as it did. -/
def huffEvenUptoRow : OpenClaim := { program := "ytngllecfhkgckaa", sum := "5b60267a22e27b551fd5dc26013ca65fa421e51cd8bf6b71487a68653bdce40a", func := "portmanteau/portmanteaulaw4.HuffEven", spec := "huffEven", unfollowed := true, recurses := true, apart := false, narrowed := true }
def HuffEvenUptoSaid : Prop := huffEvenUptoRow.holds Try.pinned (OpenSpec.upto huffEvenSpec)

/-- 'portmanteaulaw4.HuffCosts', WHERE WHAT IT READS IS OF BULK AT MOST 1048576: true; the input reads as it did. -/
def huffCostsUptoRow : OpenClaim := { program := "ytngllecfhkgckaa", sum := "5b60267a22e27b551fd5dc26013ca65fa421e51cd8bf6b71487a68653bdce40a", func := "portmanteau/portmanteaulaw4.HuffCosts", spec := "huffCosts", unfollowed := true, recurses := true, apart := false, narrowed := true }
def HuffCostsUptoSaid : Prop := huffCostsUptoRow.holds Try.pinned (OpenSpec.upto huffCostsSpec)

end Rows
end Go.Proofs.Ytngllecfhkgckaa
