/-
  DERIVED. GIVEN WITH THE SEED: THE CARDS: each row of YtligfngbmahdkaaDoorRows.lean that lists a variable, with what it lists TIED to the program's text (the seventh form; the later family's looks); each row that meets fmt, with fmt's text TOLD by the authors' own Lean function (tested against real Go, not proved from fmt's source: count such statements apart). THE CARD IS WHAT COUNTS. Prove the row's statement (the work); the ties are given (YtligfngbmahdkaaDoorTie.lean); close each card by the builder's one call (the guide's Derived/Test/ToyasCard.lean, 'card_holds'). Laid BY PROGRAM, IN A SANDBOX (cutbox-door.mjs). By AI agents, Wed Nov 11 2026. No macro, syntax, notation, axiom, sorry.
-/
import Derived.Test.YtligfngbmahdkaaDoorRows
import GoSem.ClaimSeven
namespace Go.Proofs.YtligfngbmahdkaaDoor
namespace Rows

/-- THE TIED CARD OF 'portmanteaulaw16.NumBounds'. -/
def numBoundsCard : Claim7 := { stood := { row := numBoundsRow, standIns := [], harness := (true, "a3cf763d76a12d7ab630446ab5178eebc9aa6922dd43042db709c3c1ef7a8bce"), looks := true }, kinds := [], alts := [], laidByText := true, laidKinds := [.data, .data, .data], laidTests := true, laidLooks := .later }
def NumBoundsCardSaid : Prop := Claim7.holds Tryd.pinned (.plain (OpenSpec.ofChange numBoundsSpec)) numBoundsCard

/-- THE TIED CARD OF 'portmanteaulaw16.NumBlanks'. -/
def numBlanksCard : Claim7 := { stood := { row := numBlanksRow, standIns := [], harness := (true, "a3cf763d76a12d7ab630446ab5178eebc9aa6922dd43042db709c3c1ef7a8bce"), looks := true }, kinds := [], alts := [], laidByText := true, laidKinds := [.data, .data, .data], laidTests := true, laidLooks := .later }
def NumBlanksCardSaid : Prop := Claim7.holds Tryd.pinned (.plain (OpenSpec.ofChange numBlanksSpec)) numBlanksCard

/-- THE TIED CARD OF 'portmanteaulaw16.NumFields'. -/
def numFieldsCard : Claim7 := { stood := { row := numFieldsRow, standIns := [], harness := (true, "a3cf763d76a12d7ab630446ab5178eebc9aa6922dd43042db709c3c1ef7a8bce"), looks := true }, kinds := [], alts := [], laidByText := true, laidKinds := [.data, .data, .data], laidTests := true, laidLooks := .later }
def NumFieldsCardSaid : Prop := Claim7.holds Tryd.pinned (.plain (OpenSpec.ofChange numFieldsSpec)) numFieldsCard

/-- THE TIED CARD OF 'portmanteaulaw16.NumReads'. -/
def numReadsCard : Claim7 := { stood := { row := numReadsRow, standIns := [], harness := (true, "a3cf763d76a12d7ab630446ab5178eebc9aa6922dd43042db709c3c1ef7a8bce"), looks := true }, kinds := [], alts := [], laidByText := true, laidKinds := [.data, .data, .data], laidTests := true, laidLooks := .later }
def NumReadsCardSaid : Prop := Claim7.holds Tryd.pinned (.plain (OpenSpec.ofChange numReadsSpec)) numReadsCard

/-- THE TIED CARD OF 'portmanteaulaw16.NumTexts'. -/
def numTextsCard : Claim7 := { stood := { row := numTextsRow, standIns := [], harness := (true, "a3cf763d76a12d7ab630446ab5178eebc9aa6922dd43042db709c3c1ef7a8bce"), looks := true }, kinds := [], alts := [], laidByText := true, laidKinds := [.data, .data, .data, .sentinel, .sentinel], laidTests := true, laidLooks := .later }
def NumTextsCardSaid : Prop := Claim7.holds Tryd.pinned (.plain (OpenSpec.ofChange numTextsSpec)) numTextsCard

/-- THE SECOND FORM's CARD OF 'portmanteaulaw16.NumBounds'. -/
def numBoundsUptoCard : Claim7 := { stood := { row := numBoundsUptoRow, standIns := [], harness := (true, "a3cf763d76a12d7ab630446ab5178eebc9aa6922dd43042db709c3c1ef7a8bce"), looks := true }, kinds := [], alts := [], laidByText := true, laidKinds := [.data, .data, .data], laidTests := true, laidLooks := .later }
def NumBoundsUptoCardSaid : Prop := Claim7.holds Tryd.pinned (.plain (OpenSpec.upto numBoundsSpec)) numBoundsUptoCard

/-- THE SECOND FORM's CARD OF 'portmanteaulaw16.NumBlanks'. -/
def numBlanksUptoCard : Claim7 := { stood := { row := numBlanksUptoRow, standIns := [], harness := (true, "a3cf763d76a12d7ab630446ab5178eebc9aa6922dd43042db709c3c1ef7a8bce"), looks := true }, kinds := [], alts := [], laidByText := true, laidKinds := [.data, .data, .data], laidTests := true, laidLooks := .later }
def NumBlanksUptoCardSaid : Prop := Claim7.holds Tryd.pinned (.plain (OpenSpec.upto numBlanksSpec)) numBlanksUptoCard

/-- THE SECOND FORM's CARD OF 'portmanteaulaw16.NumFields'. -/
def numFieldsUptoCard : Claim7 := { stood := { row := numFieldsUptoRow, standIns := [], harness := (true, "a3cf763d76a12d7ab630446ab5178eebc9aa6922dd43042db709c3c1ef7a8bce"), looks := true }, kinds := [], alts := [], laidByText := true, laidKinds := [.data, .data, .data], laidTests := true, laidLooks := .later }
def NumFieldsUptoCardSaid : Prop := Claim7.holds Tryd.pinned (.plain (OpenSpec.upto numFieldsSpec)) numFieldsUptoCard

/-- THE SECOND FORM's CARD OF 'portmanteaulaw16.NumReads'. -/
def numReadsUptoCard : Claim7 := { stood := { row := numReadsUptoRow, standIns := [], harness := (true, "a3cf763d76a12d7ab630446ab5178eebc9aa6922dd43042db709c3c1ef7a8bce"), looks := true }, kinds := [], alts := [], laidByText := true, laidKinds := [.data, .data, .data], laidTests := true, laidLooks := .later }
def NumReadsUptoCardSaid : Prop := Claim7.holds Tryd.pinned (.plain (OpenSpec.upto numReadsSpec)) numReadsUptoCard

/-- THE SECOND FORM's CARD OF 'portmanteaulaw16.NumTexts'. -/
def numTextsUptoCard : Claim7 := { stood := { row := numTextsUptoRow, standIns := [], harness := (true, "a3cf763d76a12d7ab630446ab5178eebc9aa6922dd43042db709c3c1ef7a8bce"), looks := true }, kinds := [], alts := [], laidByText := true, laidKinds := [.data, .data, .data, .sentinel, .sentinel], laidTests := true, laidLooks := .later }
def NumTextsUptoCardSaid : Prop := Claim7.holds Tryd.pinned (.plain (OpenSpec.upto numTextsSpec)) numTextsUptoCard
end Rows
end Go.Proofs.YtligfngbmahdkaaDoor
