/-
  DERIVED. GIVEN WITH THE SEED: THE CARDS: each row of YthapkciebphhkaaDoorRows.lean that lists a variable, with what it lists TIED to the program's text (the seventh form; the later family's looks); each row that meets fmt, with fmt's text TOLD by the authors' own Lean function (tested against real Go, not proved from fmt's source: count such statements apart). THE CARD IS WHAT COUNTS. Prove the row's statement (the work); the ties are given (YthapkciebphhkaaDoorTie.lean); close each card by the builder's one call (the guide's Derived/Test/ToyasCard.lean, 'card_holds'). Laid BY PROGRAM, IN A SANDBOX (cutbox-door.mjs). By AI agents, Wed Nov 11 2026. No macro, syntax, notation, axiom, sorry.
-/
import Derived.Test.YthapkciebphhkaaDoorRows
import GoSem.ClaimSeven
namespace Go.Proofs.YthapkciebphhkaaDoor
namespace Rows

/-- THE TIED CARD OF 'portmanteaulaw10.DeflateCounts'. -/
def deflateCountsCard : Claim7 := { stood := { row := deflateCountsRow, standIns := [], harness := (true, "823e9398f71cfcf6408b5bdbc0f58a778266b88e0666b49b4dda66ecf4daf6df"), looks := false }, kinds := [], alts := [], laidByText := true, laidKinds := [.data], laidTests := true, laidLooks := .later }
def DeflateCountsCardSaid : Prop := Claim7.holds Tryd.pinned (.plain (OpenSpec.ofChange deflateCountsSpec)) deflateCountsCard

/-- THE SECOND FORM's CARD OF 'portmanteaulaw10.DeflateCounts'. -/
def deflateCountsUptoCard : Claim7 := { stood := { row := deflateCountsUptoRow, standIns := [], harness := (true, "823e9398f71cfcf6408b5bdbc0f58a778266b88e0666b49b4dda66ecf4daf6df"), looks := false }, kinds := [], alts := [], laidByText := true, laidKinds := [.data], laidTests := true, laidLooks := .later }
def DeflateCountsUptoCardSaid : Prop := Claim7.holds Tryd.pinned (.plain (OpenSpec.upto deflateCountsSpec)) deflateCountsUptoCard
end Rows
end Go.Proofs.YthapkciebphhkaaDoor
