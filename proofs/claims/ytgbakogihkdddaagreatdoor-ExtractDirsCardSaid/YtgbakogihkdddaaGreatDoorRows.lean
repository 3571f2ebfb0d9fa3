/-
  NARROWER THAN 'FOR EVERY INPUT', by the rows' own cells (each row's printed sentence says how): ExtractOver: laid · ExtractQuota: laid · ExtractDirs: laid · ExtractLinks: laid.
  DERIVED. THE GIVEN ROWS OF THIS SEAT. 4 by the template 'for every input the law returns true; each argument reads behind the call as it read before'; 0 by the template 'total and deterministic' (their statements: YtgbakogihkdddaaGreatDoorTotals.lean).
  GIVEN WITH THE SEED: the statements are not yours to turn. If you find one false, say at which input.
  Laid BY PROGRAM, IN A SANDBOX (cutbox-rows.mjs): the forced cells as the released guide's own fill.sh prints them over the translation 792412e84b15c8bd… (all of the seat's roots in one cut). By AI agents, Wed Nov 11 2026. No macro, syntax, notation, axiom, sorry.
-/
import Derived.Test.YtgbakogihkdddaaGreatDoorChecked
import GoSem.PinnedTables
import GoSem.Claim
import GoSem.ClaimJoined
import GoSem.ClaimMapViews
import Derived.JoinedTies
import Derived.KernelRfl
namespace Go.Proofs.YtgbakogihkdddaaGreatDoor
/- THE CELL 'sum', in the pinned program and in every row, IS THE sha256 OF THE DUMP (.gsa) THAT YtgbakogihkdddaaGreatDoorProg.lean LOADS. Nothing in Lean hashes anything: it is a label: what it is worth is what the hold of that sum in a sandbox is worth. -/
noncomputable def Tryz.pinned : Pinned := { name := "ytgbakogihkdddaagreatdoor", sum := "792412e84b15c8bd3e341240f82baedef7a4a447d87a53b41c5adc026de1cb73", checked := Tryz.checked }
namespace Rows
def none {H : Type} : Left H := { results := [], args := [] }

/- WHAT THE LISTED PACKAGE-LEVEL VARIABLES READ AS WHEN THE CALL BEGINS. Each datum BY PROGRAM (the guide's laid-datum.mjs) off the statement by which the dump's own 'gosem.cut.vars' lays the variable. In a bare row this is a premise. The card (YtgbakogihkdddaaGreatDoorCards.lean) ties it to the program's text. -/
def laid_unicode_utf8_acceptRanges {H : Type} : DataW H := .agg [.agg [.lit (.int .u8 128), .lit (.int .u8 191)], .agg [.lit (.int .u8 160), .lit (.int .u8 191)], .agg [.lit (.int .u8 128), .lit (.int .u8 159)], .agg [.lit (.int .u8 144), .lit (.int .u8 191)], .agg [.lit (.int .u8 128), .lit (.int .u8 143)], .agg [.lit (.int .u8 0), .lit (.int .u8 0)], .agg [.lit (.int .u8 0), .lit (.int .u8 0)], .agg [.lit (.int .u8 0), .lit (.int .u8 0)], .agg [.lit (.int .u8 0), .lit (.int .u8 0)], .agg [.lit (.int .u8 0), .lit (.int .u8 0)], .agg [.lit (.int .u8 0), .lit (.int .u8 0)], .agg [.lit (.int .u8 0), .lit (.int .u8 0)], .agg [.lit (.int .u8 0), .lit (.int .u8 0)], .agg [.lit (.int .u8 0), .lit (.int .u8 0)], .agg [.lit (.int .u8 0), .lit (.int .u8 0)], .agg [.lit (.int .u8 0), .lit (.int .u8 0)]]
/-- One of Go's own tables, pinned by name: the form's constant. -/
def laid_unicode_utf8_first : DataW Unit := Go.Pinned.utf8First

/-- 'portmanteaulaw24.ExtractOver': WHATEVER THE INPUT: true; the input reads as it did. -/
def extractOverSpec : ChangeSpec := { name := "extractOver", fn := fun _ => fun
  | [d1, d2, d3] => { results := [.lit (.bool true)], args := [d1, d2, d3] }
  | _ => none }
def extractOverRow : OpenClaim := { program := "ytgbakogihkdddaagreatdoor", sum := "792412e84b15c8bd3e341240f82baedef7a4a447d87a53b41c5adc026de1cb73", func := "portmanteau/portmanteaulaw24.ExtractOver", spec := "extractOver", inPlace := ["internal/bytealg.IndexByteString", "internal/bytealg.IndexString", "slices.overlaps[portmanteau/api.Piece]"], unfollowed := true, recurses := true, named := ["unicode/utf8.first", "unicode/utf8.acceptRanges", "internal/bytealg.MaxLen"], apart := false, laid := [("unicode/utf8.acceptRanges", laid_unicode_utf8_acceptRanges), ("unicode/utf8.first", laid_unicode_utf8_first)] }
def ExtractOverSaid : Prop := extractOverRow.holds Tryz.pinned (OpenSpec.ofChange extractOverSpec)

/-- ITS FALSE NEIGHBOUR: 'it returns false'. Refute it at one input. -/
def extractOverWrong : ChangeSpec := { name := "extractOver", fn := fun _ => fun
  | [d1, d2, d3] => { results := [.lit (.bool false)], args := [d1, d2, d3] }
  | _ => none }
def ExtractOverWrongFalsely : Prop := extractOverRow.holds Tryz.pinned (OpenSpec.ofChange extractOverWrong)

/-- 'portmanteaulaw24.ExtractQuota': WHATEVER THE INPUT: true; the input reads as it did. -/
def extractQuotaSpec : ChangeSpec := { name := "extractQuota", fn := fun _ => fun
  | [d1, d2, d3] => { results := [.lit (.bool true)], args := [d1, d2, d3] }
  | _ => none }
def extractQuotaRow : OpenClaim := { program := "ytgbakogihkdddaagreatdoor", sum := "792412e84b15c8bd3e341240f82baedef7a4a447d87a53b41c5adc026de1cb73", func := "portmanteau/portmanteaulaw24.ExtractQuota", spec := "extractQuota", inPlace := ["internal/bytealg.IndexByteString", "internal/bytealg.IndexString", "slices.overlaps[portmanteau/api.Piece]"], unfollowed := true, recurses := true, named := ["unicode/utf8.first", "unicode/utf8.acceptRanges", "internal/bytealg.MaxLen"], apart := false, laid := [("unicode/utf8.acceptRanges", laid_unicode_utf8_acceptRanges), ("unicode/utf8.first", laid_unicode_utf8_first)] }
def ExtractQuotaSaid : Prop := extractQuotaRow.holds Tryz.pinned (OpenSpec.ofChange extractQuotaSpec)

/-- ITS FALSE NEIGHBOUR: 'it returns false'. Refute it at one input. -/
def extractQuotaWrong : ChangeSpec := { name := "extractQuota", fn := fun _ => fun
  | [d1, d2, d3] => { results := [.lit (.bool false)], args := [d1, d2, d3] }
  | _ => none }
def ExtractQuotaWrongFalsely : Prop := extractQuotaRow.holds Tryz.pinned (OpenSpec.ofChange extractQuotaWrong)

/-- 'portmanteaulaw24.ExtractDirs': WHATEVER THE INPUT: true; the input reads as it did. -/
def extractDirsSpec : ChangeSpec := { name := "extractDirs", fn := fun _ => fun
  | [d1, d2] => { results := [.lit (.bool true)], args := [d1, d2] }
  | _ => none }
def extractDirsRow : OpenClaim := { program := "ytgbakogihkdddaagreatdoor", sum := "792412e84b15c8bd3e341240f82baedef7a4a447d87a53b41c5adc026de1cb73", func := "portmanteau/portmanteaulaw24.ExtractDirs", spec := "extractDirs", inPlace := ["internal/bytealg.IndexByteString", "internal/bytealg.IndexString", "slices.overlaps[portmanteau/api.Piece]"], unfollowed := true, recurses := true, named := ["unicode/utf8.first", "unicode/utf8.acceptRanges", "internal/bytealg.MaxLen"], apart := false, laid := [("unicode/utf8.acceptRanges", laid_unicode_utf8_acceptRanges), ("unicode/utf8.first", laid_unicode_utf8_first)] }
def ExtractDirsSaid : Prop := extractDirsRow.holds Tryz.pinned (OpenSpec.ofChange extractDirsSpec)

/-- ITS FALSE NEIGHBOUR: 'it returns false'. Refute it at one input. -/
def extractDirsWrong : ChangeSpec := { name := "extractDirs", fn := fun _ => fun
  | [d1, d2] => { results := [.lit (.bool false)], args := [d1, d2] }
  | _ => none }
def ExtractDirsWrongFalsely : Prop := extractDirsRow.holds Tryz.pinned (OpenSpec.ofChange extractDirsWrong)

/-- 'portmanteaulaw24.ExtractLinks': WHATEVER THE INPUT: true; the input reads as it did. -/
def extractLinksSpec : ChangeSpec := { name := "extractLinks", fn := fun _ => fun
  | [d1, d2] => { results := [.lit (.bool true)], args := [d1, d2] }
  | _ => none }
def extractLinksRow : OpenClaim := { program := "ytgbakogihkdddaagreatdoor", sum := "792412e84b15c8bd3e341240f82baedef7a4a447d87a53b41c5adc026de1cb73", func := "portmanteau/portmanteaulaw24.ExtractLinks", spec := "extractLinks", inPlace := ["internal/bytealg.IndexByteString", "internal/bytealg.IndexString", "slices.overlaps[portmanteau/api.Piece]"], unfollowed := true, recurses := true, named := ["internal/bytealg.MaxLen", "unicode/utf8.first", "unicode/utf8.acceptRanges"], apart := false, laid := [("unicode/utf8.acceptRanges", laid_unicode_utf8_acceptRanges), ("unicode/utf8.first", laid_unicode_utf8_first)] }
def ExtractLinksSaid : Prop := extractLinksRow.holds Tryz.pinned (OpenSpec.ofChange extractLinksSpec)

/-- ITS FALSE NEIGHBOUR: 'it returns false'. Refute it at one input. -/
def extractLinksWrong : ChangeSpec := { name := "extractLinks", fn := fun _ => fun
  | [d1, d2] => { results := [.lit (.bool false)], args := [d1, d2] }
  | _ => none }
def ExtractLinksWrongFalsely : Prop := extractLinksRow.holds Tryz.pinned (OpenSpec.ofChange extractLinksWrong)

/- THE SECOND FORM. 'bulk': how many values and letters a reading holds, each counted each time it is reached (what is shared counts as often as it is met; a slice's spare places count too). A statement '..UptoSaid' is the law's where the arguments, and the package variables that the reading takes, are together of bulk at most 1048576: NARROWER than '..Said'. Prove '..Said' where nothing that the law and all that it calls make is longer than what came in: it says more and counts as full. Else prove '..UptoSaid'. A law counts once. -/
mutual
def uptoBulk {H : Type} : DataW H → Nat
  | .lit (.string bytes) => bytes.length + 1
  | .lit _ => 1
  | .nil => 1
  | .ptr d => uptoBulk d + 1
  | .slice elems spare => uptoBulkAll elems + uptoBulkAll spare + 1
  | .agg parts => uptoBulkAll parts + 1
  | .iface _ d => uptoBulk d + 1
  | .map entries => uptoBulkEntries entries + 1
  | .held _ => 1
def uptoBulkAll {H : Type} : List (DataW H) → Nat
  | [] => 0
  | d :: r => uptoBulk d + uptoBulkAll r
def uptoBulkEntries {H : Type} : List (Lit × DataW H) → Nat
  | [] => 0
  | x :: r => uptoBulkEntry x + uptoBulkEntries r
def uptoBulkEntry {H : Type} : Lit × DataW H → Nat
  | (.string bytes, d) => bytes.length + uptoBulk d + 1
  | (_, d) => uptoBulk d + 1
 end
def uptoSmall : (H : Type) → List (DataW H) → Bool := fun _ ds => decide (uptoBulkAll ds ≤ 1048576)
def OpenSpec.upto (s : _root_.Go.ChangeSpec) : _root_.Go.OpenSpec := { _root_.Go.OpenSpec.ofChange s with cond := some uptoSmall }

/-- 'portmanteaulaw24.ExtractOver', WHERE WHAT IT READS IS OF BULK AT MOST 1048576: true; the input reads as it did. -/
def extractOverUptoRow : OpenClaim := { program := "ytgbakogihkdddaagreatdoor", sum := "792412e84b15c8bd3e341240f82baedef7a4a447d87a53b41c5adc026de1cb73", func := "portmanteau/portmanteaulaw24.ExtractOver", spec := "extractOver", inPlace := ["internal/bytealg.IndexByteString", "internal/bytealg.IndexString", "slices.overlaps[portmanteau/api.Piece]"], unfollowed := true, recurses := true, named := ["unicode/utf8.first", "unicode/utf8.acceptRanges", "internal/bytealg.MaxLen"], apart := false, laid := [("unicode/utf8.acceptRanges", laid_unicode_utf8_acceptRanges), ("unicode/utf8.first", laid_unicode_utf8_first)], narrowed := true }
def ExtractOverUptoSaid : Prop := extractOverUptoRow.holds Tryz.pinned (OpenSpec.upto extractOverSpec)

/-- 'portmanteaulaw24.ExtractQuota', WHERE WHAT IT READS IS OF BULK AT MOST 1048576: true; the input reads as it did. -/
def extractQuotaUptoRow : OpenClaim := { program := "ytgbakogihkdddaagreatdoor", sum := "792412e84b15c8bd3e341240f82baedef7a4a447d87a53b41c5adc026de1cb73", func := "portmanteau/portmanteaulaw24.ExtractQuota", spec := "extractQuota", inPlace := ["internal/bytealg.IndexByteString", "internal/bytealg.IndexString", "slices.overlaps[portmanteau/api.Piece]"], unfollowed := true, recurses := true, named := ["unicode/utf8.first", "unicode/utf8.acceptRanges", "internal/bytealg.MaxLen"], apart := false, laid := [("unicode/utf8.acceptRanges", laid_unicode_utf8_acceptRanges), ("unicode/utf8.first", laid_unicode_utf8_first)], narrowed := true }
def ExtractQuotaUptoSaid : Prop := extractQuotaUptoRow.holds Tryz.pinned (OpenSpec.upto extractQuotaSpec)

/-- 'portmanteaulaw24.ExtractDirs', WHERE WHAT IT READS IS OF BULK AT MOST 1048576: true; the input reads as it did. -/
def extractDirsUptoRow : OpenClaim := { program := "ytgbakogihkdddaagreatdoor", sum := "792412e84b15c8bd3e341240f82baedef7a4a447d87a53b41c5adc026de1cb73", func := "portmanteau/portmanteaulaw24.ExtractDirs", spec := "extractDirs", inPlace := ["internal/bytealg.IndexByteString", "internal/bytealg.IndexString", "slices.overlaps[portmanteau/api.Piece]"], unfollowed := true, recurses := true, named := ["unicode/utf8.first", "unicode/utf8.acceptRanges", "internal/bytealg.MaxLen"], apart := false, laid := [("unicode/utf8.acceptRanges", laid_unicode_utf8_acceptRanges), ("unicode/utf8.first", laid_unicode_utf8_first)], narrowed := true }
def ExtractDirsUptoSaid : Prop := extractDirsUptoRow.holds Tryz.pinned (OpenSpec.upto extractDirsSpec)

/-- 'portmanteaulaw24.ExtractLinks', WHERE WHAT IT READS IS OF BULK AT MOST 1048576: true; the input reads as it did. -/
def extractLinksUptoRow : OpenClaim := { program := "ytgbakogihkdddaagreatdoor", sum := "792412e84b15c8bd3e341240f82baedef7a4a447d87a53b41c5adc026de1cb73", func := "portmanteau/portmanteaulaw24.ExtractLinks", spec := "extractLinks", inPlace := ["internal/bytealg.IndexByteString", "internal/bytealg.IndexString", "slices.overlaps[portmanteau/api.Piece]"], unfollowed := true, recurses := true, named := ["internal/bytealg.MaxLen", "unicode/utf8.first", "unicode/utf8.acceptRanges"], apart := false, laid := [("unicode/utf8.acceptRanges", laid_unicode_utf8_acceptRanges), ("unicode/utf8.first", laid_unicode_utf8_first)], narrowed := true }
def ExtractLinksUptoSaid : Prop := extractLinksUptoRow.holds Tryz.pinned (OpenSpec.upto extractLinksSpec)

end Rows
end Go.Proofs.YtgbakogihkdddaaGreatDoor
