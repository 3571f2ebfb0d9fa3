/-
  DERIVED. GIVEN WITH THE SEED: THE CARDS: each row of YtdpegahcgaicnaaGreatDoorRows.lean that lists a variable, with what it lists TIED to the program's text (the seventh form; the later family's looks); each row that meets fmt, with fmt's text TOLD by the authors' own Lean function (tested against real Go, not proved from fmt's source: count such statements apart). THE CARD IS WHAT COUNTS. Prove the row's statement (the work); the ties are given (YtdpegahcgaicnaaGreatDoorTie.lean); close each card by the builder's one call (the guide's Derived/Test/ToyasCard.lean, 'card_holds'). Laid BY PROGRAM, IN A SANDBOX (cutbox-door.mjs). By AI agents, Wed Nov 11 2026. No macro, syntax, notation, axiom, sorry.
-/
import Derived.Test.YtdpegahcgaicnaaGreatDoorRows
import GoSem.ClaimSeven
namespace Go.Proofs.YtdpegahcgaicnaaGreatDoor
namespace Rows

/-- THE TIED CARD OF 'portmanteaulaw10.DeflateMix'. -/
def deflateMixCard : Claim7 := { stood := { row := deflateMixRow, standIns := [], harness := (true, "c33df695211c99290e1a4d584934e30b043759a08560dc505f93c7b92caa320b"), looks := false }, kinds := [], alts := [], laidByText := true, laidKinds := [.data], laidTests := true, laidLooks := .later }
def DeflateMixCardSaid : Prop := Claim7.holds Tryz.pinned (.plain (OpenSpec.ofChange deflateMixSpec)) deflateMixCard

/-- THE TIED CARD OF 'portmanteaulaw10.DeflateShort'. -/
def deflateShortCard : Claim7 := { stood := { row := deflateShortRow, standIns := [], harness := (true, "c33df695211c99290e1a4d584934e30b043759a08560dc505f93c7b92caa320b"), looks := false }, kinds := [], alts := [], laidByText := true, laidKinds := [.data], laidTests := true, laidLooks := .later }
def DeflateShortCardSaid : Prop := Claim7.holds Tryz.pinned (.plain (OpenSpec.ofChange deflateShortSpec)) deflateShortCard

/-- THE TIED CARD OF 'portmanteaulaw10.DeflateForms'. -/
def deflateFormsCard : Claim7 := { stood := { row := deflateFormsRow, standIns := [], harness := (true, "c33df695211c99290e1a4d584934e30b043759a08560dc505f93c7b92caa320b"), looks := false }, kinds := [], alts := [], laidByText := true, laidKinds := [.data], laidTests := true, laidLooks := .later }
def DeflateFormsCardSaid : Prop := Claim7.holds Tryz.pinned (.plain (OpenSpec.ofChange deflateFormsSpec)) deflateFormsCard

/-- THE TIED CARD OF 'portmanteaulaw10.DeflateDynamic'. -/
def deflateDynamicCard : Claim7 := { stood := { row := deflateDynamicRow, standIns := [], harness := (true, "c33df695211c99290e1a4d584934e30b043759a08560dc505f93c7b92caa320b"), looks := false }, kinds := [], alts := [], laidByText := true, laidKinds := [.data], laidTests := true, laidLooks := .later }
def DeflateDynamicCardSaid : Prop := Claim7.holds Tryz.pinned (.plain (OpenSpec.ofChange deflateDynamicSpec)) deflateDynamicCard

/-- THE TIED CARD OF 'portmanteaulaw10.DeflateBack'. -/
def deflateBackCard : Claim7 := { stood := { row := deflateBackRow, standIns := [], harness := (true, "c33df695211c99290e1a4d584934e30b043759a08560dc505f93c7b92caa320b"), looks := false }, kinds := [], alts := [], laidByText := true, laidKinds := [.data], laidTests := true, laidLooks := .later }
def DeflateBackCardSaid : Prop := Claim7.holds Tryz.pinned (.plain (OpenSpec.ofChange deflateBackSpec)) deflateBackCard

/-- THE TIED CARD OF 'portmanteaulaw10.DeflateLong'. -/
def deflateLongCard : Claim7 := { stood := { row := deflateLongRow, standIns := [], harness := (true, "c33df695211c99290e1a4d584934e30b043759a08560dc505f93c7b92caa320b"), looks := false }, kinds := [], alts := [], laidByText := true, laidKinds := [.data], laidTests := true, laidLooks := .later }
def DeflateLongCardSaid : Prop := Claim7.holds Tryz.pinned (.plain (OpenSpec.ofChange deflateLongSpec)) deflateLongCard

/-- THE SECOND FORM's CARD OF 'portmanteaulaw10.DeflateMix'. -/
def deflateMixUptoCard : Claim7 := { stood := { row := deflateMixUptoRow, standIns := [], harness := (true, "c33df695211c99290e1a4d584934e30b043759a08560dc505f93c7b92caa320b"), looks := false }, kinds := [], alts := [], laidByText := true, laidKinds := [.data], laidTests := true, laidLooks := .later }
def DeflateMixUptoCardSaid : Prop := Claim7.holds Tryz.pinned (.plain (OpenSpec.upto deflateMixSpec)) deflateMixUptoCard

/-- THE SECOND FORM's CARD OF 'portmanteaulaw10.DeflateShort'. -/
def deflateShortUptoCard : Claim7 := { stood := { row := deflateShortUptoRow, standIns := [], harness := (true, "c33df695211c99290e1a4d584934e30b043759a08560dc505f93c7b92caa320b"), looks := false }, kinds := [], alts := [], laidByText := true, laidKinds := [.data], laidTests := true, laidLooks := .later }
def DeflateShortUptoCardSaid : Prop := Claim7.holds Tryz.pinned (.plain (OpenSpec.upto deflateShortSpec)) deflateShortUptoCard

/-- THE SECOND FORM's CARD OF 'portmanteaulaw10.DeflateForms'. -/
def deflateFormsUptoCard : Claim7 := { stood := { row := deflateFormsUptoRow, standIns := [], harness := (true, "c33df695211c99290e1a4d584934e30b043759a08560dc505f93c7b92caa320b"), looks := false }, kinds := [], alts := [], laidByText := true, laidKinds := [.data], laidTests := true, laidLooks := .later }
def DeflateFormsUptoCardSaid : Prop := Claim7.holds Tryz.pinned (.plain (OpenSpec.upto deflateFormsSpec)) deflateFormsUptoCard

/-- THE SECOND FORM's CARD OF 'portmanteaulaw10.DeflateDynamic'. -/
def deflateDynamicUptoCard : Claim7 := { stood := { row := deflateDynamicUptoRow, standIns := [], harness := (true, "c33df695211c99290e1a4d584934e30b043759a08560dc505f93c7b92caa320b"), looks := false }, kinds := [], alts := [], laidByText := true, laidKinds := [.data], laidTests := true, laidLooks := .later }
def DeflateDynamicUptoCardSaid : Prop := Claim7.holds Tryz.pinned (.plain (OpenSpec.upto deflateDynamicSpec)) deflateDynamicUptoCard

/-- THE SECOND FORM's CARD OF 'portmanteaulaw10.DeflateBack'. -/
def deflateBackUptoCard : Claim7 := { stood := { row := deflateBackUptoRow, standIns := [], harness := (true, "c33df695211c99290e1a4d584934e30b043759a08560dc505f93c7b92caa320b"), looks := false }, kinds := [], alts := [], laidByText := true, laidKinds := [.data], laidTests := true, laidLooks := .later }
def DeflateBackUptoCardSaid : Prop := Claim7.holds Tryz.pinned (.plain (OpenSpec.upto deflateBackSpec)) deflateBackUptoCard

/-- THE SECOND FORM's CARD OF 'portmanteaulaw10.DeflateLong'. -/
def deflateLongUptoCard : Claim7 := { stood := { row := deflateLongUptoRow, standIns := [], harness := (true, "c33df695211c99290e1a4d584934e30b043759a08560dc505f93c7b92caa320b"), looks := false }, kinds := [], alts := [], laidByText := true, laidKinds := [.data], laidTests := true, laidLooks := .later }
def DeflateLongUptoCardSaid : Prop := Claim7.holds Tryz.pinned (.plain (OpenSpec.upto deflateLongSpec)) deflateLongUptoCard
end Rows
end Go.Proofs.YtdpegahcgaicnaaGreatDoor
