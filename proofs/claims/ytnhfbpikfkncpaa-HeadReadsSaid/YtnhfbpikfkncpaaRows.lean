/-
  No cell of these rows narrows 'for every input' (looked for: loops, veiled, ifaces, maps, wideKeys, modest, calm, conditions, laid).
  DERIVED. THE GIVEN ROWS OF THIS SEAT. 5 by the template 'for every input the law returns true; each argument reads behind the call as it read before'; 0 by the template 'total and deterministic' (their statements: YtnhfbpikfkncpaaTotals.lean).
  GIVEN WITH THE SEED: the statements are not yours to turn. If you find one false, say at which input.
  Laid BY PROGRAM, IN A SANDBOX (cutbox-rows.mjs): the forced cells as the released guide's own fill.sh prints them over the translation e2ea56a130095195… (all of the seat's roots in one cut). By AI agents, Wed Nov 11 2026. No macro, syntax, notation, axiom, sorry.
-/
import Derived.Test.YtnhfbpikfkncpaaChecked
import GoSem.Claim
import GoSem.ClaimJoined
import GoSem.ClaimMapViews
import Derived.JoinedTies
import Derived.KernelRfl
namespace Go.Proofs.Ytnhfbpikfkncpaa
/- THE CELL 'sum', in the pinned program and in every row, IS THE sha256 OF THE DUMP (.gsa) THAT YtnhfbpikfkncpaaProg.lean LOADS. Nothing in Lean hashes anything: it is a label: what it is worth is what the hold of that sum in a sandbox is worth. -/
noncomputable def Try.pinned : Pinned := { name := "ytnhfbpikfkncpaa", sum := "e2ea56a130095195454f19b6eef9ad4cec9b741172ea0413bc0bc21133e0ea54", checked := Try.checked }
namespace Rows
def none {H : Type} : Left H := { results := [], args := [] }

/-- 'portmanteaulaw17.HeadWide': WHATEVER THE INPUT: true; the input reads as it did. -/
def headWideSpec : ChangeSpec := { name := "headWide", fn := fun _ => fun
  | [d1, d2, d3] => { results := [.lit (.bool true)], args := [d1, d2, d3] }
  | _ => none }
def headWideRow : OpenClaim := { program := "ytnhfbpikfkncpaa", sum := "e2ea56a130095195454f19b6eef9ad4cec9b741172ea0413bc0bc21133e0ea54", func := "portmanteau/portmanteaulaw17.HeadWide", spec := "headWide", inPlace := ["internal/bytealg.IndexByteString", "internal/bytealg.IndexString", "internal/bytealg.IndexByte", "internal/bytealg.Index", "internal/bytealg.Count"], named := ["internal/bytealg.MaxLen"], apart := false }
def HeadWideSaid : Prop := headWideRow.holds Try.pinned (OpenSpec.ofChange headWideSpec)

/-- ITS FALSE NEIGHBOUR: 'it returns false'. Refute it at one input. -/
def headWideWrong : ChangeSpec := { name := "headWide", fn := fun _ => fun
  | [d1, d2, d3] => { results := [.lit (.bool false)], args := [d1, d2, d3] }
  | _ => none }
def HeadWideWrongFalsely : Prop := headWideRow.holds Try.pinned (OpenSpec.ofChange headWideWrong)

/-- 'portmanteaulaw17.HeadCodes': WHATEVER THE INPUT: true; the input reads as it did. -/
def headCodesSpec : ChangeSpec := { name := "headCodes", fn := fun _ => fun
  | [d] => { results := [.lit (.bool true)], args := [d] }
  | _ => none }
def headCodesRow : OpenClaim := { program := "ytnhfbpikfkncpaa", sum := "e2ea56a130095195454f19b6eef9ad4cec9b741172ea0413bc0bc21133e0ea54", func := "portmanteau/portmanteaulaw17.HeadCodes", spec := "headCodes", inPlace := ["internal/bytealg.IndexByteString", "internal/bytealg.IndexString", "internal/bytealg.IndexByte", "internal/bytealg.Index", "internal/bytealg.Count"], named := ["internal/bytealg.MaxLen"], apart := false }
def HeadCodesSaid : Prop := headCodesRow.holds Try.pinned (OpenSpec.ofChange headCodesSpec)

/-- ITS FALSE NEIGHBOUR: 'it returns false'. Refute it at one input. -/
def headCodesWrong : ChangeSpec := { name := "headCodes", fn := fun _ => fun
  | [d] => { results := [.lit (.bool false)], args := [d] }
  | _ => none }
def HeadCodesWrongFalsely : Prop := headCodesRow.holds Try.pinned (OpenSpec.ofChange headCodesWrong)

/-- 'portmanteaulaw17.HeadReads': WHATEVER THE INPUT: true; the input reads as it did. -/
def headReadsSpec : ChangeSpec := { name := "headReads", fn := fun _ => fun
  | [d1, d2, d3, d4, d5, d6] => { results := [.lit (.bool true)], args := [d1, d2, d3, d4, d5, d6] }
  | _ => none }
def headReadsRow : OpenClaim := { program := "ytnhfbpikfkncpaa", sum := "e2ea56a130095195454f19b6eef9ad4cec9b741172ea0413bc0bc21133e0ea54", func := "portmanteau/portmanteaulaw17.HeadReads", spec := "headReads", inPlace := ["internal/bytealg.IndexByteString", "internal/bytealg.IndexString", "internal/bytealg.IndexByte", "internal/bytealg.Index", "internal/bytealg.Count"], named := ["internal/bytealg.MaxLen"], apart := false }
def HeadReadsSaid : Prop := headReadsRow.holds Try.pinned (OpenSpec.ofChange headReadsSpec)

/-- ITS FALSE NEIGHBOUR: 'it returns false'. Refute it at one input. -/
def headReadsWrong : ChangeSpec := { name := "headReads", fn := fun _ => fun
  | [d1, d2, d3, d4, d5, d6] => { results := [.lit (.bool false)], args := [d1, d2, d3, d4, d5, d6] }
  | _ => none }
def HeadReadsWrongFalsely : Prop := headReadsRow.holds Try.pinned (OpenSpec.ofChange headReadsWrong)

/-- 'portmanteaulaw17.HeadBytes': WHATEVER THE INPUT: true; the input reads as it did. -/
def headBytesSpec : ChangeSpec := { name := "headBytes", fn := fun _ => fun
  | [d1, d2, d3] => { results := [.lit (.bool true)], args := [d1, d2, d3] }
  | _ => none }
def headBytesRow : OpenClaim := { program := "ytnhfbpikfkncpaa", sum := "e2ea56a130095195454f19b6eef9ad4cec9b741172ea0413bc0bc21133e0ea54", func := "portmanteau/portmanteaulaw17.HeadBytes", spec := "headBytes", inPlace := ["internal/bytealg.IndexByteString", "internal/bytealg.IndexString", "internal/bytealg.IndexByte", "internal/bytealg.Index", "internal/bytealg.Count"], named := ["internal/bytealg.MaxLen"], apart := false }
def HeadBytesSaid : Prop := headBytesRow.holds Try.pinned (OpenSpec.ofChange headBytesSpec)

/-- ITS FALSE NEIGHBOUR: 'it returns false'. Refute it at one input. -/
def headBytesWrong : ChangeSpec := { name := "headBytes", fn := fun _ => fun
  | [d1, d2, d3] => { results := [.lit (.bool false)], args := [d1, d2, d3] }
  | _ => none }
def HeadBytesWrongFalsely : Prop := headBytesRow.holds Try.pinned (OpenSpec.ofChange headBytesWrong)

/-- 'portmanteaulaw17.HeadSplits': WHATEVER THE INPUT: true; the input reads as it did. -/
def headSplitsSpec : ChangeSpec := { name := "headSplits", fn := fun _ => fun
  | [d1, d2] => { results := [.lit (.bool true)], args := [d1, d2] }
  | _ => none }
def headSplitsRow : OpenClaim := { program := "ytnhfbpikfkncpaa", sum := "e2ea56a130095195454f19b6eef9ad4cec9b741172ea0413bc0bc21133e0ea54", func := "portmanteau/portmanteaulaw17.HeadSplits", spec := "headSplits", inPlace := ["internal/bytealg.IndexByteString", "internal/bytealg.IndexString", "internal/bytealg.IndexByte", "internal/bytealg.Index", "internal/bytealg.Count"], named := ["internal/bytealg.MaxLen"], apart := false }
def HeadSplitsSaid : Prop := headSplitsRow.holds Try.pinned (OpenSpec.ofChange headSplitsSpec)

/-- ITS FALSE NEIGHBOUR: 'it returns false'. Refute it at one input. -/
def headSplitsWrong : ChangeSpec := { name := "headSplits", fn := fun _ => fun
  | [d1, d2] => { results := [.lit (.bool false)], args := [d1, d2] }
  | _ => none }
def HeadSplitsWrongFalsely : Prop := headSplitsRow.holds Try.pinned (OpenSpec.ofChange headSplitsWrong)

/- THE SECOND FORM. 'bulk': how many values and letters a reading holds, each counted each time it is reached (what is shared counts as often as it is met; a slice's spare places count too). A statement '..UptoSaid' is the law's where the arguments, and the package variables that the reading takes, are together of bulk at most 1048576: NARROWER than '..Said'. Prove '..Said' where nothing that the law and all that it calls make is longer than what came in: it says more and counts as full. Else prove '..UptoSaid'. A law counts once. -/
mutual
def uptoBulk {H : Type} : DataW H → Nat
  | .lit (.string bytes) => bytes.length + 1
  | .lit _ => 1
  | .nil => 1
  | .ptr d => uptoBulk d + 1
  | .slice elems spare => uptoBulkAll elems + uptoBulkAll spare + 1
  | .agg parts => uptoBulkAll parts + 1
  | .iface _ d => uptoBulk d + 1
  | .map entries => uptoBulkEntries entries + 1
  | .held _ => 1
def uptoBulkAll {H : Type} : List (DataW H) → Nat
  | [] => 0
  | d :: r => uptoBulk d + uptoBulkAll r
def uptoBulkEntries {H : Type} : List (Lit × DataW H) → Nat
  | [] => 0
  | x :: r => uptoBulkEntry x + uptoBulkEntries r
def uptoBulkEntry {H : Type} : Lit × DataW H → Nat
  | (.string bytes, d) => bytes.length + uptoBulk d + 1
  | (_, d) => uptoBulk d + 1
 end
def uptoSmall : (H : Type) → List (DataW H) → Bool := fun _ ds => decide (uptoBulkAll ds ≤ 1048576)
def OpenSpec.upto (s : _root_.Go.ChangeSpec) : _root_.Go.OpenSpec := { _root_.Go.OpenSpec.ofChange s with cond := some uptoSmall }

/-- 'portmanteaulaw17.HeadWide', WHERE WHAT IT READS IS OF BULK AT MOST 1048576: true; the input reads as it did. -/
def headWideUptoRow : OpenClaim := { program := "ytnhfbpikfkncpaa", sum := "e2ea56a130095195454f19b6eef9ad4cec9b741172ea0413bc0bc21133e0ea54", func := "portmanteau/portmanteaulaw17.HeadWide", spec := "headWide", inPlace := ["internal/bytealg.IndexByteString", "internal/bytealg.IndexString", "internal/bytealg.IndexByte", "internal/bytealg.Index", "internal/bytealg.Count"], named := ["internal/bytealg.MaxLen"], apart := false, narrowed := true }
def HeadWideUptoSaid : Prop := headWideUptoRow.holds Try.pinned (OpenSpec.upto headWideSpec)

/-- 'portmanteaulaw17.HeadCodes', WHERE WHAT IT READS IS OF BULK AT MOST 1048576: true; the input reads as it did. -/
def headCodesUptoRow : OpenClaim := { program := "ytnhfbpikfkncpaa", sum := "e2ea56a130095195454f19b6eef9ad4cec9b741172ea0413bc0bc21133e0ea54", func := "portmanteau/portmanteaulaw17.HeadCodes", spec := "headCodes", inPlace := ["internal/bytealg.IndexByteString", "internal/bytealg.IndexString", "internal/bytealg.IndexByte", "internal/bytealg.Index", "internal/bytealg.Count"], named := ["internal/bytealg.MaxLen"], apart := false, narrowed := true }
def HeadCodesUptoSaid : Prop := headCodesUptoRow.holds Try.pinned (OpenSpec.upto headCodesSpec)

/-- 'portmanteaulaw17.HeadReads', WHERE WHAT IT READS IS OF BULK AT MOST 1048576: true; the input reads as it did. -/
def headReadsUptoRow : OpenClaim := { program := "ytnhfbpikfkncpaa", sum := "e2ea56a130095195454f19b6eef9ad4cec9b741172ea0413bc0bc21133e0ea54", func := "portmanteau/portmanteaulaw17.HeadReads", spec := "headReads", inPlace := ["internal/bytealg.IndexByteString", "internal/bytealg.IndexString", "internal/bytealg.IndexByte", "internal/bytealg.Index", "internal/bytealg.Count"], named := ["internal/bytealg.MaxLen"], apart := false, narrowed := true }
def HeadReadsUptoSaid : Prop := headReadsUptoRow.holds Try.pinned (OpenSpec.upto headReadsSpec)

/-- 'portmanteaulaw17.HeadBytes', WHERE WHAT IT READS IS OF BULK AT MOST 1048576: true; the input reads as it did. -/
def headBytesUptoRow : OpenClaim := { program := "ytnhfbpikfkncpaa", sum := "e2ea56a130095195454f19b6eef9ad4cec9b741172ea0413bc0bc21133e0ea54", func := "portmanteau/portmanteaulaw17.HeadBytes", spec := "headBytes", inPlace := ["internal/bytealg.IndexByteString", "internal/bytealg.IndexString", "internal/bytealg.IndexByte", "internal/bytealg.Index", "internal/bytealg.Count"], named := ["internal/bytealg.MaxLen"], apart := false, narrowed := true }
def HeadBytesUptoSaid : Prop := headBytesUptoRow.holds Try.pinned (OpenSpec.upto headBytesSpec)

/-- 'portmanteaulaw17.HeadSplits', WHERE WHAT IT READS IS OF BULK AT MOST 1048576: true; the input reads as it did. -/
def headSplitsUptoRow : OpenClaim := { program := "ytnhfbpikfkncpaa", sum := "e2ea56a130095195454f19b6eef9ad4cec9b741172ea0413bc0bc21133e0ea54", func := "portmanteau/portmanteaulaw17.HeadSplits", spec := "headSplits", inPlace := ["internal/bytealg.IndexByteString", "internal/bytealg.IndexString", "internal/bytealg.IndexByte", "internal/bytealg.Index", "internal/bytealg.Count"], named := ["internal/bytealg.MaxLen"], apart := false, narrowed := true }
def HeadSplitsUptoSaid : Prop := headSplitsUptoRow.holds Try.pinned (OpenSpec.upto headSplitsSpec)

end Rows
end Go.Proofs.Ytnhfbpikfkncpaa
