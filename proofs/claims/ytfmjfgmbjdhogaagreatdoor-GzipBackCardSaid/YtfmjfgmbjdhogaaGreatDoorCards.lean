/-
  DERIVED. GIVEN WITH THE SEED: THE CARDS: each row of YtfmjfgmbjdhogaaGreatDoorRows.lean that lists a variable, with what it lists TIED to the program's text (the seventh form; the later family's looks); each row that meets fmt, with fmt's text TOLD by the authors' own Lean function (tested against real Go, not proved from fmt's source: count such statements apart). THE CARD IS WHAT COUNTS. Prove the row's statement (the work); the ties are given (YtfmjfgmbjdhogaaGreatDoorTie.lean); close each card by the builder's one call (the guide's Derived/Test/ToyasCard.lean, 'card_holds'). Laid BY PROGRAM, IN A SANDBOX (cutbox-door.mjs). By AI agents, Wed Nov 11 2026. No macro, syntax, notation, axiom, sorry.
-/
import Derived.Test.YtfmjfgmbjdhogaaGreatDoorRows
import GoSem.ClaimSeven
namespace Go.Proofs.YtfmjfgmbjdhogaaGreatDoor
namespace Rows

/-- THE TIED CARD OF 'portmanteaulaw10.DeflateShort'. -/
def deflateShortCard : Claim7 := { stood := { row := deflateShortRow, standIns := [], harness := (true, "bcd5a0e6657dc4a07a5640bb4552cef79bc6674fe17029d7758cb9b03ac61097"), looks := false }, kinds := [], alts := [], laidByText := true, laidKinds := [.data], laidTests := true, laidLooks := .later }
def DeflateShortCardSaid : Prop := Claim7.holds Tryz.pinned (.plain (OpenSpec.ofChange deflateShortSpec)) deflateShortCard

/-- THE TIED CARD OF 'portmanteaulaw10.DeflateBack'. -/
def deflateBackCard : Claim7 := { stood := { row := deflateBackRow, standIns := [], harness := (true, "bcd5a0e6657dc4a07a5640bb4552cef79bc6674fe17029d7758cb9b03ac61097"), looks := false }, kinds := [], alts := [], laidByText := true, laidKinds := [.data], laidTests := true, laidLooks := .later }
def DeflateBackCardSaid : Prop := Claim7.holds Tryz.pinned (.plain (OpenSpec.ofChange deflateBackSpec)) deflateBackCard

/-- THE TIED CARD OF 'portmanteaulaw10.DeflateLong'. -/
def deflateLongCard : Claim7 := { stood := { row := deflateLongRow, standIns := [], harness := (true, "bcd5a0e6657dc4a07a5640bb4552cef79bc6674fe17029d7758cb9b03ac61097"), looks := false }, kinds := [], alts := [], laidByText := true, laidKinds := [.data], laidTests := true, laidLooks := .later }
def DeflateLongCardSaid : Prop := Claim7.holds Tryz.pinned (.plain (OpenSpec.ofChange deflateLongSpec)) deflateLongCard

/-- THE TIED CARD OF 'portmanteaulaw11.GzipMany'. -/
def gzipManyCard : Claim7 := { stood := { row := gzipManyRow, standIns := [], harness := (true, "bcd5a0e6657dc4a07a5640bb4552cef79bc6674fe17029d7758cb9b03ac61097"), looks := false }, kinds := [], alts := [], laidByText := true, laidKinds := [.data], laidTests := true, laidLooks := .later }
def GzipManyCardSaid : Prop := Claim7.holds Tryz.pinned (.plain (OpenSpec.ofChange gzipManySpec)) gzipManyCard

/-- THE TIED CARD OF 'portmanteaulaw11.GzipMagic'. -/
def gzipMagicCard : Claim7 := { stood := { row := gzipMagicRow, standIns := [], harness := (true, "bcd5a0e6657dc4a07a5640bb4552cef79bc6674fe17029d7758cb9b03ac61097"), looks := false }, kinds := [], alts := [], laidByText := true, laidKinds := [.data], laidTests := true, laidLooks := .later }
def GzipMagicCardSaid : Prop := Claim7.holds Tryz.pinned (.plain (OpenSpec.ofChange gzipMagicSpec)) gzipMagicCard

/-- THE TIED CARD OF 'portmanteaulaw11.GzipBack'. -/
def gzipBackCard : Claim7 := { stood := { row := gzipBackRow, standIns := [], harness := (true, "bcd5a0e6657dc4a07a5640bb4552cef79bc6674fe17029d7758cb9b03ac61097"), looks := false }, kinds := [], alts := [], laidByText := true, laidKinds := [.data], laidTests := true, laidLooks := .later }
def GzipBackCardSaid : Prop := Claim7.holds Tryz.pinned (.plain (OpenSpec.ofChange gzipBackSpec)) gzipBackCard

/-- THE SECOND FORM's CARD OF 'portmanteaulaw10.DeflateShort'. -/
def deflateShortUptoCard : Claim7 := { stood := { row := deflateShortUptoRow, standIns := [], harness := (true, "bcd5a0e6657dc4a07a5640bb4552cef79bc6674fe17029d7758cb9b03ac61097"), looks := false }, kinds := [], alts := [], laidByText := true, laidKinds := [.data], laidTests := true, laidLooks := .later }
def DeflateShortUptoCardSaid : Prop := Claim7.holds Tryz.pinned (.plain (OpenSpec.upto deflateShortSpec)) deflateShortUptoCard

/-- THE SECOND FORM's CARD OF 'portmanteaulaw10.DeflateBack'. -/
def deflateBackUptoCard : Claim7 := { stood := { row := deflateBackUptoRow, standIns := [], harness := (true, "bcd5a0e6657dc4a07a5640bb4552cef79bc6674fe17029d7758cb9b03ac61097"), looks := false }, kinds := [], alts := [], laidByText := true, laidKinds := [.data], laidTests := true, laidLooks := .later }
def DeflateBackUptoCardSaid : Prop := Claim7.holds Tryz.pinned (.plain (OpenSpec.upto deflateBackSpec)) deflateBackUptoCard

/-- THE SECOND FORM's CARD OF 'portmanteaulaw10.DeflateLong'. -/
def deflateLongUptoCard : Claim7 := { stood := { row := deflateLongUptoRow, standIns := [], harness := (true, "bcd5a0e6657dc4a07a5640bb4552cef79bc6674fe17029d7758cb9b03ac61097"), looks := false }, kinds := [], alts := [], laidByText := true, laidKinds := [.data], laidTests := true, laidLooks := .later }
def DeflateLongUptoCardSaid : Prop := Claim7.holds Tryz.pinned (.plain (OpenSpec.upto deflateLongSpec)) deflateLongUptoCard

/-- THE SECOND FORM's CARD OF 'portmanteaulaw11.GzipMany'. -/
def gzipManyUptoCard : Claim7 := { stood := { row := gzipManyUptoRow, standIns := [], harness := (true, "bcd5a0e6657dc4a07a5640bb4552cef79bc6674fe17029d7758cb9b03ac61097"), looks := false }, kinds := [], alts := [], laidByText := true, laidKinds := [.data], laidTests := true, laidLooks := .later }
def GzipManyUptoCardSaid : Prop := Claim7.holds Tryz.pinned (.plain (OpenSpec.upto gzipManySpec)) gzipManyUptoCard

/-- THE SECOND FORM's CARD OF 'portmanteaulaw11.GzipMagic'. -/
def gzipMagicUptoCard : Claim7 := { stood := { row := gzipMagicUptoRow, standIns := [], harness := (true, "bcd5a0e6657dc4a07a5640bb4552cef79bc6674fe17029d7758cb9b03ac61097"), looks := false }, kinds := [], alts := [], laidByText := true, laidKinds := [.data], laidTests := true, laidLooks := .later }
def GzipMagicUptoCardSaid : Prop := Claim7.holds Tryz.pinned (.plain (OpenSpec.upto gzipMagicSpec)) gzipMagicUptoCard

/-- THE SECOND FORM's CARD OF 'portmanteaulaw11.GzipBack'. -/
def gzipBackUptoCard : Claim7 := { stood := { row := gzipBackUptoRow, standIns := [], harness := (true, "bcd5a0e6657dc4a07a5640bb4552cef79bc6674fe17029d7758cb9b03ac61097"), looks := false }, kinds := [], alts := [], laidByText := true, laidKinds := [.data], laidTests := true, laidLooks := .later }
def GzipBackUptoCardSaid : Prop := Claim7.holds Tryz.pinned (.plain (OpenSpec.upto gzipBackSpec)) gzipBackUptoCard
end Rows
end Go.Proofs.YtfmjfgmbjdhogaaGreatDoor
