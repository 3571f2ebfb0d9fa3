/-
  DERIVED. GIVEN WITH THE SEED: THE CARDS: each row of YtjjgadanobeamaaDoorRows.lean that lists a variable, with what it lists TIED to the program's text (the seventh form; the later family's looks); each row that meets fmt, with fmt's text TOLD by the authors' own Lean function (tested against real Go, not proved from fmt's source: count such statements apart). THE CARD IS WHAT COUNTS. Prove the row's statement (the work); the ties are given (YtjjgadanobeamaaDoorTie.lean); close each card by the builder's one call (the guide's Derived/Test/ToyasCard.lean, 'card_holds'). Laid BY PROGRAM, IN A SANDBOX (cutbox-door.mjs). By AI agents, Wed Nov 11 2026. No macro, syntax, notation, axiom, sorry.
-/
import Derived.Test.YtjjgadanobeamaaDoorRows
import GoSem.ClaimSeven
namespace Go.Proofs.YtjjgadanobeamaaDoor
namespace Rows

/-- THE TIED CARD OF 'portmanteaulaw14.WalkLoops'. -/
def walkLoopsCard : Claim7 := { stood := { row := walkLoopsRow, standIns := [], harness := (true, "71f45d6640a348f5c04c007303ad281f7be1f31022bcae4349daa8c410099e11"), looks := false }, kinds := [], alts := [], laidByText := true, laidKinds := [.data, .pinned], laidTests := true, laidLooks := .later }
def WalkLoopsCardSaid : Prop := Claim7.holds Tryd.pinned (.plain (OpenSpec.ofChange walkLoopsSpec)) walkLoopsCard

/-- THE SECOND FORM's CARD OF 'portmanteaulaw14.WalkLoops'. -/
def walkLoopsUptoCard : Claim7 := { stood := { row := walkLoopsUptoRow, standIns := [], harness := (true, "71f45d6640a348f5c04c007303ad281f7be1f31022bcae4349daa8c410099e11"), looks := false }, kinds := [], alts := [], laidByText := true, laidKinds := [.data, .pinned], laidTests := true, laidLooks := .later }
def WalkLoopsUptoCardSaid : Prop := Claim7.holds Tryd.pinned (.plain (OpenSpec.upto walkLoopsSpec)) walkLoopsUptoCard
end Rows
end Go.Proofs.YtjjgadanobeamaaDoor
