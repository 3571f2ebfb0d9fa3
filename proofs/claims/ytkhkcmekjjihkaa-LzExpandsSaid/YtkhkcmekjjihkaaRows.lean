/-
  No cell of these rows narrows 'for every input' (looked for: loops, veiled, ifaces, maps, wideKeys, modest, calm, conditions, laid).
  DERIVED. THE GIVEN ROWS OF THIS SEAT. 4 by the template 'for every input the law returns true; each argument reads behind the call as it read before'; 0 by the template 'total and deterministic' (their statements: YtkhkcmekjjihkaaTotals.lean).
  GIVEN WITH THE SEED: the statements are not yours to turn. If you find one false, say at which input.
  Laid BY PROGRAM, IN A SANDBOX (cutbox-rows.mjs): the forced cells as the released guide's own fill.sh prints them over the translation 2a92a676feb82bd8… (all of the seat's roots in one cut). By AI agents, Wed Nov 11 2026. No macro, syntax, notation, axiom, sorry.
-/
import Derived.Test.YtkhkcmekjjihkaaChecked
import GoSem.Claim
import GoSem.ClaimJoined
import GoSem.ClaimMapViews
import Derived.JoinedTies
import Derived.KernelRfl
namespace Go.Proofs.Ytkhkcmekjjihkaa
/- THE CELL 'sum', in the pinned program and in every row, IS THE sha256 OF THE DUMP (.gsa) THAT YtkhkcmekjjihkaaProg.lean LOADS. Nothing in Lean hashes anything: it is a label: what it is worth is what the hold of that sum in a sandbox is worth. -/
noncomputable def Try.pinned : Pinned := { name := "ytkhkcmekjjihkaa", sum := "2a92a676feb82bd81437d849e57991ddb9976bc567174e33d746f89e84d81ffa", checked := Try.checked }
namespace Rows
def none {H : Type} : Left H := { results := [], args := [] }

/-- 'portmanteaulaw6.LzParts': WHATEVER THE INPUT: true; the input reads as it did. -/
def lzPartsSpec : ChangeSpec := { name := "lzParts", fn := fun _ => fun
  | [d1, d2] => { results := [.lit (.bool true)], args := [d1, d2] }
  | _ => none }
def lzPartsRow : OpenClaim := { program := "ytkhkcmekjjihkaa", sum := "2a92a676feb82bd81437d849e57991ddb9976bc567174e33d746f89e84d81ffa", func := "portmanteau/portmanteaulaw6.LzParts", spec := "lzParts", unfollowed := true, recurses := true, apart := false }
def LzPartsSaid : Prop := lzPartsRow.holds Try.pinned (OpenSpec.ofChange lzPartsSpec)

/-- ITS FALSE NEIGHBOUR: 'it returns false'. Refute it at one input. -/
def lzPartsWrong : ChangeSpec := { name := "lzParts", fn := fun _ => fun
  | [d1, d2] => { results := [.lit (.bool false)], args := [d1, d2] }
  | _ => none }
def LzPartsWrongFalsely : Prop := lzPartsRow.holds Try.pinned (OpenSpec.ofChange lzPartsWrong)

/-- 'portmanteaulaw6.LzSymbols': WHATEVER THE INPUT: true; the input reads as it did. -/
def lzSymbolsSpec : ChangeSpec := { name := "lzSymbols", fn := fun _ => fun
  | [d1, d2] => { results := [.lit (.bool true)], args := [d1, d2] }
  | _ => none }
def lzSymbolsRow : OpenClaim := { program := "ytkhkcmekjjihkaa", sum := "2a92a676feb82bd81437d849e57991ddb9976bc567174e33d746f89e84d81ffa", func := "portmanteau/portmanteaulaw6.LzSymbols", spec := "lzSymbols", unfollowed := true, recurses := true, apart := false }
def LzSymbolsSaid : Prop := lzSymbolsRow.holds Try.pinned (OpenSpec.ofChange lzSymbolsSpec)

/-- ITS FALSE NEIGHBOUR: 'it returns false'. Refute it at one input. -/
def lzSymbolsWrong : ChangeSpec := { name := "lzSymbols", fn := fun _ => fun
  | [d1, d2] => { results := [.lit (.bool false)], args := [d1, d2] }
  | _ => none }
def LzSymbolsWrongFalsely : Prop := lzSymbolsRow.holds Try.pinned (OpenSpec.ofChange lzSymbolsWrong)

/-- 'portmanteaulaw6.LzExpands': WHATEVER THE INPUT: true; the input reads as it did. -/
def lzExpandsSpec : ChangeSpec := { name := "lzExpands", fn := fun _ => fun
  | [d1, d2] => { results := [.lit (.bool true)], args := [d1, d2] }
  | _ => none }
def lzExpandsRow : OpenClaim := { program := "ytkhkcmekjjihkaa", sum := "2a92a676feb82bd81437d849e57991ddb9976bc567174e33d746f89e84d81ffa", func := "portmanteau/portmanteaulaw6.LzExpands", spec := "lzExpands", unfollowed := true, recurses := true, apart := false }
def LzExpandsSaid : Prop := lzExpandsRow.holds Try.pinned (OpenSpec.ofChange lzExpandsSpec)

/-- ITS FALSE NEIGHBOUR: 'it returns false'. Refute it at one input. -/
def lzExpandsWrong : ChangeSpec := { name := "lzExpands", fn := fun _ => fun
  | [d1, d2] => { results := [.lit (.bool false)], args := [d1, d2] }
  | _ => none }
def LzExpandsWrongFalsely : Prop := lzExpandsRow.holds Try.pinned (OpenSpec.ofChange lzExpandsWrong)

/-- 'portmanteaulaw6.LzCopies': WHATEVER THE INPUT: true; the input reads as it did. -/
def lzCopiesSpec : ChangeSpec := { name := "lzCopies", fn := fun _ => fun
  | [d1, d2, d3] => { results := [.lit (.bool true)], args := [d1, d2, d3] }
  | _ => none }
def lzCopiesRow : OpenClaim := { program := "ytkhkcmekjjihkaa", sum := "2a92a676feb82bd81437d849e57991ddb9976bc567174e33d746f89e84d81ffa", func := "portmanteau/portmanteaulaw6.LzCopies", spec := "lzCopies", unfollowed := true, recurses := true, apart := false }
def LzCopiesSaid : Prop := lzCopiesRow.holds Try.pinned (OpenSpec.ofChange lzCopiesSpec)

/-- ITS FALSE NEIGHBOUR: 'it returns false'. Refute it at one input. -/
def lzCopiesWrong : ChangeSpec := { name := "lzCopies", fn := fun _ => fun
  | [d1, d2, d3] => { results := [.lit (.bool false)], args := [d1, d2, d3] }
  | _ => none }
def LzCopiesWrongFalsely : Prop := lzCopiesRow.holds Try.pinned (OpenSpec.ofChange lzCopiesWrong)

/- THE SECOND FORM. 'bulk': how many values and letters a reading holds, each counted each time it is reached (what is shared counts as often as it is met; a slice's spare places count too). A statement '..UptoSaid' is the law's where the arguments, and the package variables that the reading takes, are together of bulk at most 1048576: NARROWER than '..Said'. Prove '..Said' where nothing that the law and all that it calls make is longer than what came in: it says more and counts as full. Else prove '..UptoSaid'. A law counts once. -/
mutual
def uptoBulk {H : Type} : DataW H → Nat
  | .lit (.string bytes) => bytes.length + 1
  | .lit _ => 1
  | .nil => 1
  | .ptr d => uptoBulk d + 1
  | .slice elems spare => uptoBulkAll elems + uptoBulkAll spare + 1
  | .agg parts => uptoBulkAll parts + 1
  | .iface _ d => uptoBulk d + 1
  | .map entries => uptoBulkEntries entries + 1
  | .held _ => 1
def uptoBulkAll {H : Type} : List (DataW H) → Nat
  | [] => 0
  | d :: r => uptoBulk d + uptoBulkAll r
def uptoBulkEntries {H : Type} : List (Lit × DataW H) → Nat
  | [] => 0
  | x :: r => uptoBulkEntry x + uptoBulkEntries r
def uptoBulkEntry {H : Type} : Lit × DataW H → Nat
  | (.string bytes, d) => bytes.length + uptoBulk d + 1
  | (_, d) => uptoBulk d + 1
 end
def uptoSmall : (H : Type) → List (DataW H) → Bool := fun _ ds => decide (uptoBulkAll ds ≤ 1048576)
def OpenSpec.upto (s : _root_.Go.ChangeSpec) : _root_.Go.OpenSpec := { _root_.Go.OpenSpec.ofChange s with cond := some uptoSmall }

/-- 'portmanteaulaw6.LzParts', WHERE WHAT IT READS IS OF BULK AT MOST 1048576: true; the input reads as it did. -/
def lzPartsUptoRow : OpenClaim := { program := "ytkhkcmekjjihkaa", sum := "2a92a676feb82bd81437d849e57991ddb9976bc567174e33d746f89e84d81ffa", func := "portmanteau/portmanteaulaw6.LzParts", spec := "lzParts", unfollowed := true, recurses := true, apart := false, narrowed := true }
def LzPartsUptoSaid : Prop := lzPartsUptoRow.holds Try.pinned (OpenSpec.upto lzPartsSpec)

/-- 'portmanteaulaw6.LzSymbols', WHERE WHAT IT READS IS OF BULK AT MOST 1048576: true; the input reads as it did. -/
def lzSymbolsUptoRow : OpenClaim := { program := "ytkhkcmekjjihkaa", sum := "2a92a676feb82bd81437d849e57991ddb9976bc567174e33d746f89e84d81ffa", func := "portmanteau/portmanteaulaw6.LzSymbols", spec := "lzSymbols", unfollowed := true, recurses := true, apart := false, narrowed := true }
def LzSymbolsUptoSaid : Prop := lzSymbolsUptoRow.holds Try.pinned (OpenSpec.upto lzSymbolsSpec)

/-- 'portmanteaulaw6.LzExpands', WHERE WHAT IT READS IS OF BULK AT MOST 1048576: true; the input reads as it did. -/
def lzExpandsUptoRow : OpenClaim := { program := "ytkhkcmekjjihkaa", sum := "2a92a676feb82bd81437d849e57991ddb9976bc567174e33d746f89e84d81ffa", func := "portmanteau/portmanteaulaw6.LzExpands", spec := "lzExpands", unfollowed := true, recurses := true, apart := false, narrowed := true }
def LzExpandsUptoSaid : Prop := lzExpandsUptoRow.holds Try.pinned (OpenSpec.upto lzExpandsSpec)

/-- 'portmanteaulaw6.LzCopies', WHERE WHAT IT READS IS OF BULK AT MOST 1048576: true; the input reads as it did. -/
def lzCopiesUptoRow : OpenClaim := { program := "ytkhkcmekjjihkaa", sum := "2a92a676feb82bd81437d849e57991ddb9976bc567174e33d746f89e84d81ffa", func := "portmanteau/portmanteaulaw6.LzCopies", spec := "lzCopies", unfollowed := true, recurses := true, apart := false, narrowed := true }
def LzCopiesUptoSaid : Prop := lzCopiesUptoRow.holds Try.pinned (OpenSpec.upto lzCopiesSpec)

end Rows
end Go.Proofs.Ytkhkcmekjjihkaa
