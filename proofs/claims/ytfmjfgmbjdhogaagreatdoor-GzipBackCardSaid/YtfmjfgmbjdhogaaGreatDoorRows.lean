/-
  NARROWER THAN 'FOR EVERY INPUT', by the rows' own cells (each row's printed sentence says how): DeflateShort: laid · DeflateBack: laid · DeflateLong: laid · GzipMany: laid · GzipMagic: laid · GzipBack: laid.
  DERIVED. THE GIVEN ROWS OF THIS SEAT. 6 by the template 'for every input the law returns true; each argument reads behind the call as it read before'; 0 by the template 'total and deterministic' (their statements: YtfmjfgmbjdhogaaGreatDoorTotals.lean).
  GIVEN WITH THE SEED: the statements are not yours to turn. If you find one false, say at which input.
  Laid BY PROGRAM, IN A SANDBOX (cutbox-rows.mjs): the forced cells as the released guide's own fill.sh prints them over the translation 43c97b9dfe0e7c05… (all of the seat's roots in one cut). By AI agents, Wed Nov 11 2026. No macro, syntax, notation, axiom, sorry.
-/
import Derived.Test.YtfmjfgmbjdhogaaGreatDoorChecked
import GoSem.Claim
import GoSem.ClaimJoined
import GoSem.ClaimMapViews
import Derived.JoinedTies
import Derived.KernelRfl
namespace Go.Proofs.YtfmjfgmbjdhogaaGreatDoor
/- THE CELL 'sum', in the pinned program and in every row, IS THE sha256 OF THE DUMP (.gsa) THAT YtfmjfgmbjdhogaaGreatDoorProg.lean LOADS. Nothing in Lean hashes anything: it is a label: what it is worth is what the hold of that sum in a sandbox is worth. -/
noncomputable def Tryz.pinned : Pinned := { name := "ytfmjfgmbjdhogaagreatdoor", sum := "43c97b9dfe0e7c051a17cf1a835444cb4bf86377f40c822f47222238ddd99b9e", checked := Tryz.checked }
namespace Rows
def none {H : Type} : Left H := { results := [], args := [] }

/- WHAT THE LISTED PACKAGE-LEVEL VARIABLES READ AS WHEN THE CALL BEGINS. Each datum BY PROGRAM (the guide's laid-datum.mjs) off the statement by which the dump's own 'gosem.cut.vars' lays the variable. In a bare row this is a premise. The card (YtfmjfgmbjdhogaaGreatDoorCards.lean) ties it to the program's text. -/
def laid_math_bits_deBruijn64tab {H : Type} : DataW H := .agg [.lit (.int .u8 0), .lit (.int .u8 1), .lit (.int .u8 56), .lit (.int .u8 2), .lit (.int .u8 57), .lit (.int .u8 49), .lit (.int .u8 28), .lit (.int .u8 3), .lit (.int .u8 61), .lit (.int .u8 58), .lit (.int .u8 42), .lit (.int .u8 50), .lit (.int .u8 38), .lit (.int .u8 29), .lit (.int .u8 17), .lit (.int .u8 4), .lit (.int .u8 62), .lit (.int .u8 47), .lit (.int .u8 59), .lit (.int .u8 36), .lit (.int .u8 45), .lit (.int .u8 43), .lit (.int .u8 51), .lit (.int .u8 22), .lit (.int .u8 53), .lit (.int .u8 39), .lit (.int .u8 33), .lit (.int .u8 30), .lit (.int .u8 24), .lit (.int .u8 18), .lit (.int .u8 12), .lit (.int .u8 5), .lit (.int .u8 63), .lit (.int .u8 55), .lit (.int .u8 48), .lit (.int .u8 27), .lit (.int .u8 60), .lit (.int .u8 41), .lit (.int .u8 37), .lit (.int .u8 16), .lit (.int .u8 46), .lit (.int .u8 35), .lit (.int .u8 44), .lit (.int .u8 21), .lit (.int .u8 52), .lit (.int .u8 32), .lit (.int .u8 23), .lit (.int .u8 11), .lit (.int .u8 54), .lit (.int .u8 26), .lit (.int .u8 40), .lit (.int .u8 15), .lit (.int .u8 34), .lit (.int .u8 20), .lit (.int .u8 31), .lit (.int .u8 10), .lit (.int .u8 25), .lit (.int .u8 14), .lit (.int .u8 19), .lit (.int .u8 9), .lit (.int .u8 13), .lit (.int .u8 8), .lit (.int .u8 7), .lit (.int .u8 6)]

/-- 'portmanteaulaw10.DeflateShort': WHATEVER THE INPUT: true; the input reads as it did. -/
def deflateShortSpec : ChangeSpec := { name := "deflateShort", fn := fun _ => fun
  | [d1, d2] => { results := [.lit (.bool true)], args := [d1, d2] }
  | _ => none }
def deflateShortRow : OpenClaim := { program := "ytfmjfgmbjdhogaagreatdoor", sum := "43c97b9dfe0e7c051a17cf1a835444cb4bf86377f40c822f47222238ddd99b9e", func := "portmanteau/portmanteaulaw10.DeflateShort", spec := "deflateShort", unfollowed := true, recurses := true, named := ["math/bits.deBruijn64tab"], apart := false, laid := [("math/bits.deBruijn64tab", laid_math_bits_deBruijn64tab)] }
def DeflateShortSaid : Prop := deflateShortRow.holds Tryz.pinned (OpenSpec.ofChange deflateShortSpec)

/-- ITS FALSE NEIGHBOUR: 'it returns false'. Refute it at one input. -/
def deflateShortWrong : ChangeSpec := { name := "deflateShort", fn := fun _ => fun
  | [d1, d2] => { results := [.lit (.bool false)], args := [d1, d2] }
  | _ => none }
def DeflateShortWrongFalsely : Prop := deflateShortRow.holds Tryz.pinned (OpenSpec.ofChange deflateShortWrong)

/-- 'portmanteaulaw10.DeflateBack': WHATEVER THE INPUT: true; the input reads as it did. -/
def deflateBackSpec : ChangeSpec := { name := "deflateBack", fn := fun _ => fun
  | [d1, d2, d3, d4] => { results := [.lit (.bool true)], args := [d1, d2, d3, d4] }
  | _ => none }
def deflateBackRow : OpenClaim := { program := "ytfmjfgmbjdhogaagreatdoor", sum := "43c97b9dfe0e7c051a17cf1a835444cb4bf86377f40c822f47222238ddd99b9e", func := "portmanteau/portmanteaulaw10.DeflateBack", spec := "deflateBack", unfollowed := true, recurses := true, named := ["math/bits.deBruijn64tab"], apart := false, laid := [("math/bits.deBruijn64tab", laid_math_bits_deBruijn64tab)] }
def DeflateBackSaid : Prop := deflateBackRow.holds Tryz.pinned (OpenSpec.ofChange deflateBackSpec)

/-- ITS FALSE NEIGHBOUR: 'it returns false'. Refute it at one input. -/
def deflateBackWrong : ChangeSpec := { name := "deflateBack", fn := fun _ => fun
  | [d1, d2, d3, d4] => { results := [.lit (.bool false)], args := [d1, d2, d3, d4] }
  | _ => none }
def DeflateBackWrongFalsely : Prop := deflateBackRow.holds Tryz.pinned (OpenSpec.ofChange deflateBackWrong)

/-- 'portmanteaulaw10.DeflateLong': WHATEVER THE INPUT: true; the input reads as it did. -/
def deflateLongSpec : ChangeSpec := { name := "deflateLong", fn := fun _ => fun
  | [d1, d2, d3] => { results := [.lit (.bool true)], args := [d1, d2, d3] }
  | _ => none }
def deflateLongRow : OpenClaim := { program := "ytfmjfgmbjdhogaagreatdoor", sum := "43c97b9dfe0e7c051a17cf1a835444cb4bf86377f40c822f47222238ddd99b9e", func := "portmanteau/portmanteaulaw10.DeflateLong", spec := "deflateLong", unfollowed := true, recurses := true, named := ["math/bits.deBruijn64tab"], apart := false, laid := [("math/bits.deBruijn64tab", laid_math_bits_deBruijn64tab)] }
def DeflateLongSaid : Prop := deflateLongRow.holds Tryz.pinned (OpenSpec.ofChange deflateLongSpec)

/-- ITS FALSE NEIGHBOUR: 'it returns false'. Refute it at one input. -/
def deflateLongWrong : ChangeSpec := { name := "deflateLong", fn := fun _ => fun
  | [d1, d2, d3] => { results := [.lit (.bool false)], args := [d1, d2, d3] }
  | _ => none }
def DeflateLongWrongFalsely : Prop := deflateLongRow.holds Tryz.pinned (OpenSpec.ofChange deflateLongWrong)

/-- 'portmanteaulaw11.GzipMany': WHATEVER THE INPUT: true; the input reads as it did. -/
def gzipManySpec : ChangeSpec := { name := "gzipMany", fn := fun _ => fun
  | [d1, d2, d3] => { results := [.lit (.bool true)], args := [d1, d2, d3] }
  | _ => none }
def gzipManyRow : OpenClaim := { program := "ytfmjfgmbjdhogaagreatdoor", sum := "43c97b9dfe0e7c051a17cf1a835444cb4bf86377f40c822f47222238ddd99b9e", func := "portmanteau/portmanteaulaw11.GzipMany", spec := "gzipMany", inPlace := ["internal/bytealg.IndexByte"], unfollowed := true, recurses := true, named := ["math/bits.deBruijn64tab"], apart := false, laid := [("math/bits.deBruijn64tab", laid_math_bits_deBruijn64tab)] }
def GzipManySaid : Prop := gzipManyRow.holds Tryz.pinned (OpenSpec.ofChange gzipManySpec)

/-- ITS FALSE NEIGHBOUR: 'it returns false'. Refute it at one input. -/
def gzipManyWrong : ChangeSpec := { name := "gzipMany", fn := fun _ => fun
  | [d1, d2, d3] => { results := [.lit (.bool false)], args := [d1, d2, d3] }
  | _ => none }
def GzipManyWrongFalsely : Prop := gzipManyRow.holds Tryz.pinned (OpenSpec.ofChange gzipManyWrong)

/-- 'portmanteaulaw11.GzipMagic': WHATEVER THE INPUT: true; the input reads as it did. -/
def gzipMagicSpec : ChangeSpec := { name := "gzipMagic", fn := fun _ => fun
  | [d] => { results := [.lit (.bool true)], args := [d] }
  | _ => none }
def gzipMagicRow : OpenClaim := { program := "ytfmjfgmbjdhogaagreatdoor", sum := "43c97b9dfe0e7c051a17cf1a835444cb4bf86377f40c822f47222238ddd99b9e", func := "portmanteau/portmanteaulaw11.GzipMagic", spec := "gzipMagic", inPlace := ["internal/bytealg.IndexByte"], unfollowed := true, recurses := true, named := ["math/bits.deBruijn64tab"], apart := false, laid := [("math/bits.deBruijn64tab", laid_math_bits_deBruijn64tab)] }
def GzipMagicSaid : Prop := gzipMagicRow.holds Tryz.pinned (OpenSpec.ofChange gzipMagicSpec)

/-- ITS FALSE NEIGHBOUR: 'it returns false'. Refute it at one input. -/
def gzipMagicWrong : ChangeSpec := { name := "gzipMagic", fn := fun _ => fun
  | [d] => { results := [.lit (.bool false)], args := [d] }
  | _ => none }
def GzipMagicWrongFalsely : Prop := gzipMagicRow.holds Tryz.pinned (OpenSpec.ofChange gzipMagicWrong)

/-- 'portmanteaulaw11.GzipBack': WHATEVER THE INPUT: true; the input reads as it did. -/
def gzipBackSpec : ChangeSpec := { name := "gzipBack", fn := fun _ => fun
  | [d1, d2, d3, d4, d5] => { results := [.lit (.bool true)], args := [d1, d2, d3, d4, d5] }
  | _ => none }
def gzipBackRow : OpenClaim := { program := "ytfmjfgmbjdhogaagreatdoor", sum := "43c97b9dfe0e7c051a17cf1a835444cb4bf86377f40c822f47222238ddd99b9e", func := "portmanteau/portmanteaulaw11.GzipBack", spec := "gzipBack", inPlace := ["internal/bytealg.IndexByte"], unfollowed := true, recurses := true, named := ["math/bits.deBruijn64tab"], apart := false, laid := [("math/bits.deBruijn64tab", laid_math_bits_deBruijn64tab)] }
def GzipBackSaid : Prop := gzipBackRow.holds Tryz.pinned (OpenSpec.ofChange gzipBackSpec)

/-- ITS FALSE NEIGHBOUR: 'it returns false'. Refute it at one input. -/
def gzipBackWrong : ChangeSpec := { name := "gzipBack", fn := fun _ => fun
  | [d1, d2, d3, d4, d5] => { results := [.lit (.bool false)], args := [d1, d2, d3, d4, d5] }
  | _ => none }
def GzipBackWrongFalsely : Prop := gzipBackRow.holds Tryz.pinned (OpenSpec.ofChange gzipBackWrong)

/- THE SECOND FORM. 'bulk': how many values and letters a reading holds, each counted each time it is reached (what is shared counts as often as it is met; a slice's spare places count too). A statement '..UptoSaid' is the law's where the arguments, and the package variables that the reading takes, are together of bulk at most 1048576: NARROWER than '..Said'. Prove '..Said' where nothing that the law and all that it calls make is longer than what came in: it says more and counts as full. Else prove '..UptoSaid'. A law counts once. -/
mutual
def uptoBulk {H : Type} : DataW H → Nat
  | .lit (.string bytes) => bytes.length + 1
  | .lit _ => 1
  | .nil => 1
  | .ptr d => uptoBulk d + 1
  | .slice elems spare => uptoBulkAll elems + uptoBulkAll spare + 1
  | .agg parts => uptoBulkAll parts + 1
  | .iface _ d => uptoBulk d + 1
  | .map entries => uptoBulkEntries entries + 1
  | .held _ => 1
def uptoBulkAll {H : Type} : List (DataW H) → Nat
  | [] => 0
  | d :: r => uptoBulk d + uptoBulkAll r
def uptoBulkEntries {H : Type} : List (Lit × DataW H) → Nat
  | [] => 0
  | x :: r => uptoBulkEntry x + uptoBulkEntries r
def uptoBulkEntry {H : Type} : Lit × DataW H → Nat
  | (.string bytes, d) => bytes.length + uptoBulk d + 1
  | (_, d) => uptoBulk d + 1
 end
def uptoSmall : (H : Type) → List (DataW H) → Bool := fun _ ds => decide (uptoBulkAll ds ≤ 1048576)
def OpenSpec.upto (s : _root_.Go.ChangeSpec) : _root_.Go.OpenSpec := { _root_.Go.OpenSpec.ofChange s with cond := some uptoSmall }

/-- 'portmanteaulaw10.DeflateShort', WHERE WHAT IT READS IS OF BULK AT MOST 1048576: true; the input reads as it did. -/
def deflateShortUptoRow : OpenClaim := { program := "ytfmjfgmbjdhogaagreatdoor", sum := "43c97b9dfe0e7c051a17cf1a835444cb4bf86377f40c822f47222238ddd99b9e", func := "portmanteau/portmanteaulaw10.DeflateShort", spec := "deflateShort", unfollowed := true, recurses := true, named := ["math/bits.deBruijn64tab"], apart := false, laid := [("math/bits.deBruijn64tab", laid_math_bits_deBruijn64tab)], narrowed := true }
def DeflateShortUptoSaid : Prop := deflateShortUptoRow.holds Tryz.pinned (OpenSpec.upto deflateShortSpec)

/-- 'portmanteaulaw10.DeflateBack', WHERE WHAT IT READS IS OF BULK AT MOST 1048576: true; the input reads as it did. -/
def deflateBackUptoRow : OpenClaim := { program := "ytfmjfgmbjdhogaagreatdoor", sum := "43c97b9dfe0e7c051a17cf1a835444cb4bf86377f40c822f47222238ddd99b9e", func := "portmanteau/portmanteaulaw10.DeflateBack", spec := "deflateBack", unfollowed := true, recurses := true, named := ["math/bits.deBruijn64tab"], apart := false, laid := [("math/bits.deBruijn64tab", laid_math_bits_deBruijn64tab)], narrowed := true }
def DeflateBackUptoSaid : Prop := deflateBackUptoRow.holds Tryz.pinned (OpenSpec.upto deflateBackSpec)

/-- 'portmanteaulaw10.DeflateLong', WHERE WHAT IT READS IS OF BULK AT MOST 1048576: true; the input reads as it did. -/
def deflateLongUptoRow : OpenClaim := { program := "ytfmjfgmbjdhogaagreatdoor", sum := "43c97b9dfe0e7c051a17cf1a835444cb4bf86377f40c822f47222238ddd99b9e", func := "portmanteau/portmanteaulaw10.DeflateLong", spec := "deflateLong", unfollowed := true, recurses := true, named := ["math/bits.deBruijn64tab"], apart := false, laid := [("math/bits.deBruijn64tab", laid_math_bits_deBruijn64tab)], narrowed := true }
def DeflateLongUptoSaid : Prop := deflateLongUptoRow.holds Tryz.pinned (OpenSpec.upto deflateLongSpec)

/-- 'portmanteaulaw11.GzipMany', WHERE WHAT IT READS IS OF BULK AT MOST 1048576: true; the input reads as it did. -/
def gzipManyUptoRow : OpenClaim := { program := "ytfmjfgmbjdhogaagreatdoor", sum := "43c97b9dfe0e7c051a17cf1a835444cb4bf86377f40c822f47222238ddd99b9e", func := "portmanteau/portmanteaulaw11.GzipMany", spec := "gzipMany", inPlace := ["internal/bytealg.IndexByte"], unfollowed := true, recurses := true, named := ["math/bits.deBruijn64tab"], apart := false, laid := [("math/bits.deBruijn64tab", laid_math_bits_deBruijn64tab)], narrowed := true }
def GzipManyUptoSaid : Prop := gzipManyUptoRow.holds Tryz.pinned (OpenSpec.upto gzipManySpec)

/-- 'portmanteaulaw11.GzipMagic', WHERE WHAT IT READS IS OF BULK AT MOST 1048576: true; the input reads as it did. -/
def gzipMagicUptoRow : OpenClaim := { program := "ytfmjfgmbjdhogaagreatdoor", sum := "43c97b9dfe0e7c051a17cf1a835444cb4bf86377f40c822f47222238ddd99b9e", func := "portmanteau/portmanteaulaw11.GzipMagic", spec := "gzipMagic", inPlace := ["internal/bytealg.IndexByte"], unfollowed := true, recurses := true, named := ["math/bits.deBruijn64tab"], apart := false, laid := [("math/bits.deBruijn64tab", laid_math_bits_deBruijn64tab)], narrowed := true }
def GzipMagicUptoSaid : Prop := gzipMagicUptoRow.holds Tryz.pinned (OpenSpec.upto gzipMagicSpec)

/-- 'portmanteaulaw11.GzipBack', WHERE WHAT IT READS IS OF BULK AT MOST 1048576: true; the input reads as it did. -/
def gzipBackUptoRow : OpenClaim := { program := "ytfmjfgmbjdhogaagreatdoor", sum := "43c97b9dfe0e7c051a17cf1a835444cb4bf86377f40c822f47222238ddd99b9e", func := "portmanteau/portmanteaulaw11.GzipBack", spec := "gzipBack", inPlace := ["internal/bytealg.IndexByte"], unfollowed := true, recurses := true, named := ["math/bits.deBruijn64tab"], apart := false, laid := [("math/bits.deBruijn64tab", laid_math_bits_deBruijn64tab)], narrowed := true }
def GzipBackUptoSaid : Prop := gzipBackUptoRow.holds Tryz.pinned (OpenSpec.upto gzipBackSpec)

end Rows
end Go.Proofs.YtfmjfgmbjdhogaaGreatDoor
