/-
  DERIVED. GIVEN WITH THE SEED: THE CARDS: each row of YtclcgiochjibjaaGreatDoorRows.lean that lists a variable, with what it lists TIED to the program's text (the seventh form; the later family's looks); each row that meets fmt, with fmt's text TOLD by the authors' own Lean function (tested against real Go, not proved from fmt's source: count such statements apart). THE CARD IS WHAT COUNTS. Prove the row's statement (the work); the ties are given (YtclcgiochjibjaaGreatDoorTie.lean); close each card by the builder's one call (the guide's Derived/Test/ToyasCard.lean, 'card_holds'). Laid BY PROGRAM, IN A SANDBOX (cutbox-door.mjs). By AI agents, Wed Nov 11 2026. No macro, syntax, notation, axiom, sorry.
-/
import Derived.Test.YtclcgiochjibjaaGreatDoorRows
import GoSem.ClaimSeven
namespace Go.Proofs.YtclcgiochjibjaaGreatDoor
namespace Rows

/-- THE TIED CARD OF 'portmanteaulaw18.PaxCodes'. -/
def paxCodesCard : Claim7 := { stood := { row := paxCodesRow, standIns := [], harness := (true, "bf5168345ab182e79ce68f49519edf7abf4174cabc35f5d1c664a9958bfaeb43"), looks := true }, kinds := [], alts := [], laidByText := true, laidKinds := [.data, .data, .data, .data, .sentinel, .sentinel, .pinned], laidTests := true, laidLooks := .later }
def PaxCodesCardSaid : Prop := Claim7.holds Tryz.pinned (.plain (OpenSpec.ofChange paxCodesSpec)) paxCodesCard

/-- THE SECOND FORM's CARD OF 'portmanteaulaw18.PaxCodes'. -/
def paxCodesUptoCard : Claim7 := { stood := { row := paxCodesUptoRow, standIns := [], harness := (true, "bf5168345ab182e79ce68f49519edf7abf4174cabc35f5d1c664a9958bfaeb43"), looks := true }, kinds := [], alts := [], laidByText := true, laidKinds := [.data, .data, .data, .data, .sentinel, .sentinel, .pinned], laidTests := true, laidLooks := .later }
def PaxCodesUptoCardSaid : Prop := Claim7.holds Tryz.pinned (.plain (OpenSpec.upto paxCodesSpec)) paxCodesUptoCard
end Rows
end Go.Proofs.YtclcgiochjibjaaGreatDoor
