/-
  DERIVED. GIVEN WITH THE SEED: THE CARDS: each row of YtjjgadanobeamaaGreatDoorRows.lean that lists a variable, with what it lists TIED to the program's text (the seventh form; the later family's looks); each row that meets fmt, with fmt's text TOLD by the authors' own Lean function (tested against real Go, not proved from fmt's source: count such statements apart). THE CARD IS WHAT COUNTS. Prove the row's statement (the work); the ties are given (YtjjgadanobeamaaGreatDoorTie.lean); close each card by the builder's one call (the guide's Derived/Test/ToyasCard.lean, 'card_holds'). Laid BY PROGRAM, IN A SANDBOX (cutbox-door.mjs). By AI agents, Wed Nov 11 2026. No macro, syntax, notation, axiom, sorry.
-/
import Derived.Test.YtjjgadanobeamaaGreatDoorRows
import GoSem.ClaimSeven
namespace Go.Proofs.YtjjgadanobeamaaGreatDoor
namespace Rows

/-- THE TIED CARD OF 'portmanteaulaw15.SameTurns'. -/
def sameTurnsCard : Claim7 := { stood := { row := sameTurnsRow, standIns := [], harness := (true, "0ca0b760be1fa10d8a05454dbab8440a55cc1f81631364b43723092afeb77b5c"), looks := false }, kinds := [], alts := [], laidByText := true, laidKinds := [.data, .data, .data], laidTests := true, laidLooks := .later }
def SameTurnsCardSaid : Prop := Claim7.holds Tryz.pinned (.plain (OpenSpec.ofChange sameTurnsSpec)) sameTurnsCard

/-- THE TIED CARD OF 'portmanteaulaw15.SameSeconds'. -/
def sameSecondsCard : Claim7 := { stood := { row := sameSecondsRow, standIns := [], harness := (true, "0ca0b760be1fa10d8a05454dbab8440a55cc1f81631364b43723092afeb77b5c"), looks := false }, kinds := [], alts := [], laidByText := true, laidKinds := [.data, .data, .data], laidTests := true, laidLooks := .later }
def SameSecondsCardSaid : Prop := Claim7.holds Tryz.pinned (.plain (OpenSpec.ofChange sameSecondsSpec)) sameSecondsCard

/-- THE SECOND FORM's CARD OF 'portmanteaulaw15.SameTurns'. -/
def sameTurnsUptoCard : Claim7 := { stood := { row := sameTurnsUptoRow, standIns := [], harness := (true, "0ca0b760be1fa10d8a05454dbab8440a55cc1f81631364b43723092afeb77b5c"), looks := false }, kinds := [], alts := [], laidByText := true, laidKinds := [.data, .data, .data], laidTests := true, laidLooks := .later }
def SameTurnsUptoCardSaid : Prop := Claim7.holds Tryz.pinned (.plain (OpenSpec.upto sameTurnsSpec)) sameTurnsUptoCard

/-- THE SECOND FORM's CARD OF 'portmanteaulaw15.SameSeconds'. -/
def sameSecondsUptoCard : Claim7 := { stood := { row := sameSecondsUptoRow, standIns := [], harness := (true, "0ca0b760be1fa10d8a05454dbab8440a55cc1f81631364b43723092afeb77b5c"), looks := false }, kinds := [], alts := [], laidByText := true, laidKinds := [.data, .data, .data], laidTests := true, laidLooks := .later }
def SameSecondsUptoCardSaid : Prop := Claim7.holds Tryz.pinned (.plain (OpenSpec.upto sameSecondsSpec)) sameSecondsUptoCard
end Rows
end Go.Proofs.YtjjgadanobeamaaGreatDoor
