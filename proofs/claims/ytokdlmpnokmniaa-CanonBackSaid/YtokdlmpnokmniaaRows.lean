/-
  No cell of these rows narrows 'for every input' (looked for: loops, veiled, ifaces, maps, wideKeys, modest, calm, conditions, laid).
  DERIVED. THE GIVEN ROWS OF THIS SEAT. 5 by the template 'for every input the law returns true; each argument reads behind the call as it read before'; 0 by the template 'total and deterministic' (their statements: YtokdlmpnokmniaaTotals.lean).
  GIVEN WITH THE SEED: the statements are not yours to turn. If you find one false, say at which input.
  Laid BY PROGRAM, IN A SANDBOX (cutbox-rows.mjs): the forced cells as the released guide's own fill.sh prints them over the translation 3c3c199f9636519b… (all of the seat's roots in one cut). By AI agents, Wed Nov 11 2026. No macro, syntax, notation, axiom, sorry.
-/
import Derived.Test.YtokdlmpnokmniaaChecked
import GoSem.Claim
import GoSem.ClaimJoined
import GoSem.ClaimMapViews
import Derived.JoinedTies
import Derived.KernelRfl
namespace Go.Proofs.Ytokdlmpnokmniaa
/- THE CELL 'sum', in the pinned program and in every row, IS THE sha256 OF THE DUMP (.gsa) THAT YtokdlmpnokmniaaProg.lean LOADS. Nothing in Lean hashes anything: it is a label: what it is worth is what the hold of that sum in a sandbox is worth. -/
noncomputable def Try.pinned : Pinned := { name := "ytokdlmpnokmniaa", sum := "3c3c199f9636519bad64e9fde69003f08166ae9ca2067195e07eeb6468f01ed3", checked := Try.checked }
namespace Rows
def none {H : Type} : Left H := { results := [], args := [] }

/-- 'portmanteaulaw5.CanonTail': WHATEVER THE INPUT: true; the input reads as it did. -/
def canonTailSpec : ChangeSpec := { name := "canonTail", fn := fun _ => fun
  | [d1, d2, d3] => { results := [.lit (.bool true)], args := [d1, d2, d3] }
  | _ => none }
def canonTailRow : OpenClaim := { program := "ytokdlmpnokmniaa", sum := "3c3c199f9636519bad64e9fde69003f08166ae9ca2067195e07eeb6468f01ed3", func := "portmanteau/portmanteaulaw5.CanonTail", spec := "canonTail", unfollowed := true, recurses := true, apart := false }
def CanonTailSaid : Prop := canonTailRow.holds Try.pinned (OpenSpec.ofChange canonTailSpec)

/-- ITS FALSE NEIGHBOUR: 'it returns false'. Refute it at one input. -/
def canonTailWrong : ChangeSpec := { name := "canonTail", fn := fun _ => fun
  | [d1, d2, d3] => { results := [.lit (.bool false)], args := [d1, d2, d3] }
  | _ => none }
def CanonTailWrongFalsely : Prop := canonTailRow.holds Try.pinned (OpenSpec.ofChange canonTailWrong)

/-- 'portmanteaulaw5.CanonKinds': WHATEVER THE INPUT: true; the input reads as it did. -/
def canonKindsSpec : ChangeSpec := { name := "canonKinds", fn := fun _ => fun
  | [d1, d2, d3, d4] => { results := [.lit (.bool true)], args := [d1, d2, d3, d4] }
  | _ => none }
def canonKindsRow : OpenClaim := { program := "ytokdlmpnokmniaa", sum := "3c3c199f9636519bad64e9fde69003f08166ae9ca2067195e07eeb6468f01ed3", func := "portmanteau/portmanteaulaw5.CanonKinds", spec := "canonKinds", unfollowed := true, recurses := true, apart := false }
def CanonKindsSaid : Prop := canonKindsRow.holds Try.pinned (OpenSpec.ofChange canonKindsSpec)

/-- ITS FALSE NEIGHBOUR: 'it returns false'. Refute it at one input. -/
def canonKindsWrong : ChangeSpec := { name := "canonKinds", fn := fun _ => fun
  | [d1, d2, d3, d4] => { results := [.lit (.bool false)], args := [d1, d2, d3, d4] }
  | _ => none }
def CanonKindsWrongFalsely : Prop := canonKindsRow.holds Try.pinned (OpenSpec.ofChange canonKindsWrong)

/-- 'portmanteaulaw5.CanonReads': WHATEVER THE INPUT: true; the input reads as it did. -/
def canonReadsSpec : ChangeSpec := { name := "canonReads", fn := fun _ => fun
  | [d1, d2, d3, d4] => { results := [.lit (.bool true)], args := [d1, d2, d3, d4] }
  | _ => none }
def canonReadsRow : OpenClaim := { program := "ytokdlmpnokmniaa", sum := "3c3c199f9636519bad64e9fde69003f08166ae9ca2067195e07eeb6468f01ed3", func := "portmanteau/portmanteaulaw5.CanonReads", spec := "canonReads", unfollowed := true, recurses := true, apart := false }
def CanonReadsSaid : Prop := canonReadsRow.holds Try.pinned (OpenSpec.ofChange canonReadsSpec)

/-- ITS FALSE NEIGHBOUR: 'it returns false'. Refute it at one input. -/
def canonReadsWrong : ChangeSpec := { name := "canonReads", fn := fun _ => fun
  | [d1, d2, d3, d4] => { results := [.lit (.bool false)], args := [d1, d2, d3, d4] }
  | _ => none }
def CanonReadsWrongFalsely : Prop := canonReadsRow.holds Try.pinned (OpenSpec.ofChange canonReadsWrong)

/-- 'portmanteaulaw5.CanonBack': WHATEVER THE INPUT: true; the input reads as it did. -/
def canonBackSpec : ChangeSpec := { name := "canonBack", fn := fun _ => fun
  | [d1, d2, d3] => { results := [.lit (.bool true)], args := [d1, d2, d3] }
  | _ => none }
def canonBackRow : OpenClaim := { program := "ytokdlmpnokmniaa", sum := "3c3c199f9636519bad64e9fde69003f08166ae9ca2067195e07eeb6468f01ed3", func := "portmanteau/portmanteaulaw5.CanonBack", spec := "canonBack", unfollowed := true, recurses := true, apart := false }
def CanonBackSaid : Prop := canonBackRow.holds Try.pinned (OpenSpec.ofChange canonBackSpec)

/-- ITS FALSE NEIGHBOUR: 'it returns false'. Refute it at one input. -/
def canonBackWrong : ChangeSpec := { name := "canonBack", fn := fun _ => fun
  | [d1, d2, d3] => { results := [.lit (.bool false)], args := [d1, d2, d3] }
  | _ => none }
def CanonBackWrongFalsely : Prop := canonBackRow.holds Try.pinned (OpenSpec.ofChange canonBackWrong)

/-- 'portmanteaulaw5.CanonFree': WHATEVER THE INPUT: true; the input reads as it did. -/
def canonFreeSpec : ChangeSpec := { name := "canonFree", fn := fun _ => fun
  | [d] => { results := [.lit (.bool true)], args := [d] }
  | _ => none }
def canonFreeRow : OpenClaim := { program := "ytokdlmpnokmniaa", sum := "3c3c199f9636519bad64e9fde69003f08166ae9ca2067195e07eeb6468f01ed3", func := "portmanteau/portmanteaulaw5.CanonFree", spec := "canonFree", unfollowed := true, recurses := true, apart := false }
def CanonFreeSaid : Prop := canonFreeRow.holds Try.pinned (OpenSpec.ofChange canonFreeSpec)

/-- ITS FALSE NEIGHBOUR: 'it returns false'. Refute it at one input. -/
def canonFreeWrong : ChangeSpec := { name := "canonFree", fn := fun _ => fun
  | [d] => { results := [.lit (.bool false)], args := [d] }
  | _ => none }
def CanonFreeWrongFalsely : Prop := canonFreeRow.holds Try.pinned (OpenSpec.ofChange canonFreeWrong)

/- THE SECOND FORM. 'bulk': how many values and letters a reading holds, each counted each time it is reached (what is shared counts as often as it is met; a slice's spare places count too). A statement '..UptoSaid' is the law's where the arguments, and the package variables that the reading takes, are together of bulk at most 1048576: NARROWER than '..Said'. Prove '..Said' where nothing that the law and all that it calls make is longer than what came in: it says more and counts as full. Else prove '..UptoSaid'. A law counts once. -/
mutual
def uptoBulk {H : Type} : DataW H → Nat
  | .lit (.string bytes) => bytes.length + 1
  | .lit _ => 1
  | .nil => 1
  | .ptr d => uptoBulk d + 1
  | .slice elems spare => uptoBulkAll elems + uptoBulkAll spare + 1
  | .agg parts => uptoBulkAll parts + 1
  | .iface _ d => uptoBulk d + 1
  | .map entries => uptoBulkEntries entries + 1
  | .held _ => 1
def uptoBulkAll {H : Type} : List (DataW H) → Nat
  | [] => 0
  | d :: r => uptoBulk d + uptoBulkAll r
def uptoBulkEntries {H : Type} : List (Lit × DataW H) → Nat
  | [] => 0
  | x :: r => uptoBulkEntry x + uptoBulkEntries r
def uptoBulkEntry {H : Type} : Lit × DataW H → Nat
  | (.string bytes, d) => bytes.length + uptoBulk d + 1
  | (_, d) => uptoBulk d + 1
 end
def uptoSmall : (H : Type) → List (DataW H) → Bool := fun _ ds => decide (uptoBulkAll ds ≤ 1048576)
def OpenSpec.upto (s : _root_.Go.ChangeSpec) : _root_.Go.OpenSpec := { _root_.Go.OpenSpec.ofChange s with cond := some uptoSmall }

/-- 'portmanteaulaw5.CanonTail', WHERE WHAT IT READS IS OF BULK AT MOST 1048576: true; the input reads as it did. -/
def canonTailUptoRow : OpenClaim := { program := "ytokdlmpnokmniaa", sum := "3c3c199f9636519bad64e9fde69003f08166ae9ca2067195e07eeb6468f01ed3", func := "portmanteau/portmanteaulaw5.CanonTail", spec := "canonTail", unfollowed := true, recurses := true, apart := false, narrowed := true }
def CanonTailUptoSaid : Prop := canonTailUptoRow.holds Try.pinned (OpenSpec.upto canonTailSpec)

/-- 'portmanteaulaw5.CanonKinds', WHERE WHAT IT READS IS OF BULK AT MOST 1048576: true; the input reads as it did. -/
def canonKindsUptoRow : OpenClaim := { program := "ytokdlmpnokmniaa", sum := "3c3c199f9636519bad64e9fde69003f08166ae9ca2067195e07eeb6468f01ed3", func := "portmanteau/portmanteaulaw5.CanonKinds", spec := "canonKinds", unfollowed := true, recurses := true, apart := false, narrowed := true }
def CanonKindsUptoSaid : Prop := canonKindsUptoRow.holds Try.pinned (OpenSpec.upto canonKindsSpec)

/-- 'portmanteaulaw5.CanonReads', WHERE WHAT IT READS IS OF BULK AT MOST 1048576: true; the input reads as it did. -/
def canonReadsUptoRow : OpenClaim := { program := "ytokdlmpnokmniaa", sum := "3c3c199f9636519bad64e9fde69003f08166ae9ca2067195e07eeb6468f01ed3", func := "portmanteau/portmanteaulaw5.CanonReads", spec := "canonReads", unfollowed := true, recurses := true, apart := false, narrowed := true }
def CanonReadsUptoSaid : Prop := canonReadsUptoRow.holds Try.pinned (OpenSpec.upto canonReadsSpec)

/-- 'portmanteaulaw5.CanonBack', WHERE WHAT IT READS IS OF BULK AT MOST 1048576: true; the input reads as it did. -/
def canonBackUptoRow : OpenClaim := { program := "ytokdlmpnokmniaa", sum := "3c3c199f9636519bad64e9fde69003f08166ae9ca2067195e07eeb6468f01ed3", func := "portmanteau/portmanteaulaw5.CanonBack", spec := "canonBack", unfollowed := true, recurses := true, apart := false, narrowed := true }
def CanonBackUptoSaid : Prop := canonBackUptoRow.holds Try.pinned (OpenSpec.upto canonBackSpec)

/-- 'portmanteaulaw5.CanonFree', WHERE WHAT IT READS IS OF BULK AT MOST 1048576: true; the input reads as it did. -/
def canonFreeUptoRow : OpenClaim := { program := "ytokdlmpnokmniaa", sum := "3c3c199f9636519bad64e9fde69003f08166ae9ca2067195e07eeb6468f01ed3", func := "portmanteau/portmanteaulaw5.CanonFree", spec := "canonFree", unfollowed := true, recurses := true, apart := false, narrowed := true }
def CanonFreeUptoSaid : Prop := canonFreeUptoRow.holds Try.pinned (OpenSpec.upto canonFreeSpec)

end Rows
end Go.Proofs.Ytokdlmpnokmniaa
