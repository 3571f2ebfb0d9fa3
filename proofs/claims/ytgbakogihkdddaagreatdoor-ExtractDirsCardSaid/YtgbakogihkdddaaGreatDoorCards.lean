/-
  DERIVED. GIVEN WITH THE SEED: THE CARDS: each row of YtgbakogihkdddaaGreatDoorRows.lean that lists a variable, with what it lists TIED to the program's text (the seventh form; the later family's looks); each row that meets fmt, with fmt's text TOLD by the authors' own Lean function (tested against real Go, not proved from fmt's source: count such statements apart). THE CARD IS WHAT COUNTS. Prove the row's statement (the work); the ties are given (YtgbakogihkdddaaGreatDoorTie.lean); close each card by the builder's one call (the guide's Derived/Test/ToyasCard.lean, 'card_holds'). Laid BY PROGRAM, IN A SANDBOX (cutbox-door.mjs). By AI agents, Wed Nov 11 2026. No macro, syntax, notation, axiom, sorry.
-/
import Derived.Test.YtgbakogihkdddaaGreatDoorRows
import GoSem.ClaimSeven
namespace Go.Proofs.YtgbakogihkdddaaGreatDoor
namespace Rows

/-- THE TIED CARD OF 'portmanteaulaw24.ExtractOver'. -/
def extractOverCard : Claim7 := { stood := { row := extractOverRow, standIns := [], harness := (true, "5d7475a6243f63f85da4ee54878d4875e7b8424da206bf019023369f1b68ab9b"), looks := false }, kinds := [], alts := [], laidByText := true, laidKinds := [.data, .pinned], laidTests := true, laidLooks := .later }
def ExtractOverCardSaid : Prop := Claim7.holds Tryz.pinned (.plain (OpenSpec.ofChange extractOverSpec)) extractOverCard

/-- THE TIED CARD OF 'portmanteaulaw24.ExtractQuota'. -/
def extractQuotaCard : Claim7 := { stood := { row := extractQuotaRow, standIns := [], harness := (true, "5d7475a6243f63f85da4ee54878d4875e7b8424da206bf019023369f1b68ab9b"), looks := false }, kinds := [], alts := [], laidByText := true, laidKinds := [.data, .pinned], laidTests := true, laidLooks := .later }
def ExtractQuotaCardSaid : Prop := Claim7.holds Tryz.pinned (.plain (OpenSpec.ofChange extractQuotaSpec)) extractQuotaCard

/-- THE TIED CARD OF 'portmanteaulaw24.ExtractDirs'. -/
def extractDirsCard : Claim7 := { stood := { row := extractDirsRow, standIns := [], harness := (true, "5d7475a6243f63f85da4ee54878d4875e7b8424da206bf019023369f1b68ab9b"), looks := false }, kinds := [], alts := [], laidByText := true, laidKinds := [.data, .pinned], laidTests := true, laidLooks := .later }
def ExtractDirsCardSaid : Prop := Claim7.holds Tryz.pinned (.plain (OpenSpec.ofChange extractDirsSpec)) extractDirsCard

/-- THE TIED CARD OF 'portmanteaulaw24.ExtractLinks'. -/
def extractLinksCard : Claim7 := { stood := { row := extractLinksRow, standIns := [], harness := (true, "5d7475a6243f63f85da4ee54878d4875e7b8424da206bf019023369f1b68ab9b"), looks := false }, kinds := [], alts := [], laidByText := true, laidKinds := [.data, .pinned], laidTests := true, laidLooks := .later }
def ExtractLinksCardSaid : Prop := Claim7.holds Tryz.pinned (.plain (OpenSpec.ofChange extractLinksSpec)) extractLinksCard

/-- THE SECOND FORM's CARD OF 'portmanteaulaw24.ExtractOver'. -/
def extractOverUptoCard : Claim7 := { stood := { row := extractOverUptoRow, standIns := [], harness := (true, "5d7475a6243f63f85da4ee54878d4875e7b8424da206bf019023369f1b68ab9b"), looks := false }, kinds := [], alts := [], laidByText := true, laidKinds := [.data, .pinned], laidTests := true, laidLooks := .later }
def ExtractOverUptoCardSaid : Prop := Claim7.holds Tryz.pinned (.plain (OpenSpec.upto extractOverSpec)) extractOverUptoCard

/-- THE SECOND FORM's CARD OF 'portmanteaulaw24.ExtractQuota'. -/
def extractQuotaUptoCard : Claim7 := { stood := { row := extractQuotaUptoRow, standIns := [], harness := (true, "5d7475a6243f63f85da4ee54878d4875e7b8424da206bf019023369f1b68ab9b"), looks := false }, kinds := [], alts := [], laidByText := true, laidKinds := [.data, .pinned], laidTests := true, laidLooks := .later }
def ExtractQuotaUptoCardSaid : Prop := Claim7.holds Tryz.pinned (.plain (OpenSpec.upto extractQuotaSpec)) extractQuotaUptoCard

/-- THE SECOND FORM's CARD OF 'portmanteaulaw24.ExtractDirs'. -/
def extractDirsUptoCard : Claim7 := { stood := { row := extractDirsUptoRow, standIns := [], harness := (true, "5d7475a6243f63f85da4ee54878d4875e7b8424da206bf019023369f1b68ab9b"), looks := false }, kinds := [], alts := [], laidByText := true, laidKinds := [.data, .pinned], laidTests := true, laidLooks := .later }
def ExtractDirsUptoCardSaid : Prop := Claim7.holds Tryz.pinned (.plain (OpenSpec.upto extractDirsSpec)) extractDirsUptoCard

/-- THE SECOND FORM's CARD OF 'portmanteaulaw24.ExtractLinks'. -/
def extractLinksUptoCard : Claim7 := { stood := { row := extractLinksUptoRow, standIns := [], harness := (true, "5d7475a6243f63f85da4ee54878d4875e7b8424da206bf019023369f1b68ab9b"), looks := false }, kinds := [], alts := [], laidByText := true, laidKinds := [.data, .pinned], laidTests := true, laidLooks := .later }
def ExtractLinksUptoCardSaid : Prop := Claim7.holds Tryz.pinned (.plain (OpenSpec.upto extractLinksSpec)) extractLinksUptoCard
end Rows
end Go.Proofs.YtgbakogihkdddaaGreatDoor
