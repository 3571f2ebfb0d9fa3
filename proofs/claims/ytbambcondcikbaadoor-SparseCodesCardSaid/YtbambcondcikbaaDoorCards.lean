/-
  DERIVED. GIVEN WITH THE SEED: THE CARDS: each row of YtbambcondcikbaaDoorRows.lean that lists a variable, with what it lists TIED to the program's text (the seventh form; the later family's looks); each row that meets fmt, with fmt's text TOLD by the authors' own Lean function (tested against real Go, not proved from fmt's source: count such statements apart). THE CARD IS WHAT COUNTS. Prove the row's statement (the work); the ties are given (YtbambcondcikbaaDoorTie.lean); close each card by the builder's one call (the guide's Derived/Test/ToyasCard.lean, 'card_holds'). Laid BY PROGRAM, IN A SANDBOX (cutbox-door.mjs). By AI agents, Wed Nov 11 2026. No macro, syntax, notation, axiom, sorry.
-/
import Derived.Test.YtbambcondcikbaaDoorRows
import GoSem.ClaimSeven
namespace Go.Proofs.YtbambcondcikbaaDoor
namespace Rows

/-- THE TIED CARD OF 'portmanteaulaw16.NumTexts'. -/
def numTextsCard : Claim7 := { stood := { row := numTextsRow, standIns := [], harness := (true, "79e36cad159c7ca9120f9a404f6031c261bf19aabe1c923891528dcc1ea86c1b"), looks := true }, kinds := [], alts := [], laidByText := true, laidKinds := [.data, .data, .data, .sentinel, .sentinel], laidTests := true, laidLooks := .later }
def NumTextsCardSaid : Prop := Claim7.holds Tryd.pinned (.plain (OpenSpec.ofChange numTextsSpec)) numTextsCard

/-- THE TIED CARD OF 'portmanteaulaw19.SparseFalls'. -/
def sparseFallsCard : Claim7 := { stood := { row := sparseFallsRow, standIns := [], harness := (true, "79e36cad159c7ca9120f9a404f6031c261bf19aabe1c923891528dcc1ea86c1b"), looks := true }, kinds := [], alts := [], laidByText := true, laidKinds := [.data, .data, .data, .sentinel, .sentinel], laidTests := true, laidLooks := .later }
def SparseFallsCardSaid : Prop := Claim7.holds Tryd.pinned (.plain (OpenSpec.ofChange sparseFallsSpec)) sparseFallsCard

/-- THE TIED CARD OF 'portmanteaulaw19.SparseCodes'. -/
def sparseCodesCard : Claim7 := { stood := { row := sparseCodesRow, standIns := [], harness := (true, "79e36cad159c7ca9120f9a404f6031c261bf19aabe1c923891528dcc1ea86c1b"), looks := true }, kinds := [], alts := [], laidByText := true, laidKinds := [.data, .data, .data, .sentinel, .sentinel], laidTests := true, laidLooks := .later }
def SparseCodesCardSaid : Prop := Claim7.holds Tryd.pinned (.plain (OpenSpec.ofChange sparseCodesSpec)) sparseCodesCard

/-- THE TIED CARD OF 'portmanteaulaw19.SparseBack'. -/
def sparseBackCard : Claim7 := { stood := { row := sparseBackRow, standIns := [], harness := (true, "79e36cad159c7ca9120f9a404f6031c261bf19aabe1c923891528dcc1ea86c1b"), looks := true }, kinds := [], alts := [], laidByText := true, laidKinds := [.data, .data, .data, .sentinel, .sentinel], laidTests := true, laidLooks := .later }
def SparseBackCardSaid : Prop := Claim7.holds Tryd.pinned (.plain (OpenSpec.ofChange sparseBackSpec)) sparseBackCard

/-- THE TIED CARD OF 'portmanteaulaw19.SparseBounds'. -/
def sparseBoundsCard : Claim7 := { stood := { row := sparseBoundsRow, standIns := [], harness := (true, "79e36cad159c7ca9120f9a404f6031c261bf19aabe1c923891528dcc1ea86c1b"), looks := true }, kinds := [], alts := [], laidByText := true, laidKinds := [.data, .data, .data, .sentinel, .sentinel], laidTests := true, laidLooks := .later }
def SparseBoundsCardSaid : Prop := Claim7.holds Tryd.pinned (.plain (OpenSpec.ofChange sparseBoundsSpec)) sparseBoundsCard

/-- THE SECOND FORM's CARD OF 'portmanteaulaw16.NumTexts'. -/
def numTextsUptoCard : Claim7 := { stood := { row := numTextsUptoRow, standIns := [], harness := (true, "79e36cad159c7ca9120f9a404f6031c261bf19aabe1c923891528dcc1ea86c1b"), looks := true }, kinds := [], alts := [], laidByText := true, laidKinds := [.data, .data, .data, .sentinel, .sentinel], laidTests := true, laidLooks := .later }
def NumTextsUptoCardSaid : Prop := Claim7.holds Tryd.pinned (.plain (OpenSpec.upto numTextsSpec)) numTextsUptoCard

/-- THE SECOND FORM's CARD OF 'portmanteaulaw19.SparseFalls'. -/
def sparseFallsUptoCard : Claim7 := { stood := { row := sparseFallsUptoRow, standIns := [], harness := (true, "79e36cad159c7ca9120f9a404f6031c261bf19aabe1c923891528dcc1ea86c1b"), looks := true }, kinds := [], alts := [], laidByText := true, laidKinds := [.data, .data, .data, .sentinel, .sentinel], laidTests := true, laidLooks := .later }
def SparseFallsUptoCardSaid : Prop := Claim7.holds Tryd.pinned (.plain (OpenSpec.upto sparseFallsSpec)) sparseFallsUptoCard

/-- THE SECOND FORM's CARD OF 'portmanteaulaw19.SparseCodes'. -/
def sparseCodesUptoCard : Claim7 := { stood := { row := sparseCodesUptoRow, standIns := [], harness := (true, "79e36cad159c7ca9120f9a404f6031c261bf19aabe1c923891528dcc1ea86c1b"), looks := true }, kinds := [], alts := [], laidByText := true, laidKinds := [.data, .data, .data, .sentinel, .sentinel], laidTests := true, laidLooks := .later }
def SparseCodesUptoCardSaid : Prop := Claim7.holds Tryd.pinned (.plain (OpenSpec.upto sparseCodesSpec)) sparseCodesUptoCard

/-- THE SECOND FORM's CARD OF 'portmanteaulaw19.SparseBack'. -/
def sparseBackUptoCard : Claim7 := { stood := { row := sparseBackUptoRow, standIns := [], harness := (true, "79e36cad159c7ca9120f9a404f6031c261bf19aabe1c923891528dcc1ea86c1b"), looks := true }, kinds := [], alts := [], laidByText := true, laidKinds := [.data, .data, .data, .sentinel, .sentinel], laidTests := true, laidLooks := .later }
def SparseBackUptoCardSaid : Prop := Claim7.holds Tryd.pinned (.plain (OpenSpec.upto sparseBackSpec)) sparseBackUptoCard

/-- THE SECOND FORM's CARD OF 'portmanteaulaw19.SparseBounds'. -/
def sparseBoundsUptoCard : Claim7 := { stood := { row := sparseBoundsUptoRow, standIns := [], harness := (true, "79e36cad159c7ca9120f9a404f6031c261bf19aabe1c923891528dcc1ea86c1b"), looks := true }, kinds := [], alts := [], laidByText := true, laidKinds := [.data, .data, .data, .sentinel, .sentinel], laidTests := true, laidLooks := .later }
def SparseBoundsUptoCardSaid : Prop := Claim7.holds Tryd.pinned (.plain (OpenSpec.upto sparseBoundsSpec)) sparseBoundsUptoCard
end Rows
end Go.Proofs.YtbambcondcikbaaDoor
