/-
  DERIVED. GIVEN WITH THE SEED: THE CARDS: each row of YtclcgiochjibjaaDoorRows.lean that lists a variable, with what it lists TIED to the program's text (the seventh form; the later family's looks); each row that meets fmt, with fmt's text TOLD by the authors' own Lean function (tested against real Go, not proved from fmt's source: count such statements apart). THE CARD IS WHAT COUNTS. Prove the row's statement (the work); the ties are given (YtclcgiochjibjaaDoorTie.lean); close each card by the builder's one call (the guide's Derived/Test/ToyasCard.lean, 'card_holds'). Laid BY PROGRAM, IN A SANDBOX (cutbox-door.mjs). By AI agents, Wed Nov 11 2026. No macro, syntax, notation, axiom, sorry.
-/
import Derived.Test.YtclcgiochjibjaaDoorRows
import GoSem.ClaimSeven
namespace Go.Proofs.YtclcgiochjibjaaDoor
namespace Rows

/-- THE TIED CARD OF 'portmanteaulaw18.PaxOne'. -/
def paxOneCard : Claim7 := { stood := { row := paxOneRow, standIns := [], harness := (true, "e301e28453c2fce14716663a9956ea42202a9e1a80dbfea68256fc81b24a8db2"), looks := true }, kinds := [], alts := [], laidByText := true, laidKinds := [.data, .data, .data, .data, .sentinel, .sentinel, .pinned], laidTests := true, laidLooks := .later }
def PaxOneCardSaid : Prop := Claim7.holds Tryd.pinned (.plain (OpenSpec.ofChange paxOneSpec)) paxOneCard

/-- THE TIED CARD OF 'portmanteaulaw18.PaxNanos'. -/
def paxNanosCard : Claim7 := { stood := { row := paxNanosRow, standIns := [], harness := (true, "e301e28453c2fce14716663a9956ea42202a9e1a80dbfea68256fc81b24a8db2"), looks := true }, kinds := [], alts := [], laidByText := true, laidKinds := [.data, .data, .data, .data, .sentinel, .sentinel, .pinned], laidTests := true, laidLooks := .later }
def PaxNanosCardSaid : Prop := Claim7.holds Tryd.pinned (.plain (OpenSpec.ofChange paxNanosSpec)) paxNanosCard

/-- THE TIED CARD OF 'portmanteaulaw18.PaxBack'. -/
def paxBackCard : Claim7 := { stood := { row := paxBackRow, standIns := [], harness := (true, "e301e28453c2fce14716663a9956ea42202a9e1a80dbfea68256fc81b24a8db2"), looks := true }, kinds := [], alts := [], laidByText := true, laidKinds := [.data, .data, .data, .data, .sentinel, .sentinel, .pinned], laidTests := true, laidLooks := .later }
def PaxBackCardSaid : Prop := Claim7.holds Tryd.pinned (.plain (OpenSpec.ofChange paxBackSpec)) paxBackCard

/-- THE TIED CARD OF 'portmanteaulaw18.PaxBounds'. -/
def paxBoundsCard : Claim7 := { stood := { row := paxBoundsRow, standIns := [], harness := (true, "e301e28453c2fce14716663a9956ea42202a9e1a80dbfea68256fc81b24a8db2"), looks := true }, kinds := [], alts := [], laidByText := true, laidKinds := [.data, .data, .data, .data, .sentinel, .sentinel, .pinned], laidTests := true, laidLooks := .later }
def PaxBoundsCardSaid : Prop := Claim7.holds Tryd.pinned (.plain (OpenSpec.ofChange paxBoundsSpec)) paxBoundsCard

/-- THE TIED CARD OF 'portmanteaulaw18.PaxTimes'. -/
def paxTimesCard : Claim7 := { stood := { row := paxTimesRow, standIns := [], harness := (true, "e301e28453c2fce14716663a9956ea42202a9e1a80dbfea68256fc81b24a8db2"), looks := true }, kinds := [], alts := [], laidByText := true, laidKinds := [.data, .data, .data, .data, .sentinel, .sentinel, .pinned], laidTests := true, laidLooks := .later }
def PaxTimesCardSaid : Prop := Claim7.holds Tryd.pinned (.plain (OpenSpec.ofChange paxTimesSpec)) paxTimesCard

/-- THE SECOND FORM's CARD OF 'portmanteaulaw18.PaxOne'. -/
def paxOneUptoCard : Claim7 := { stood := { row := paxOneUptoRow, standIns := [], harness := (true, "e301e28453c2fce14716663a9956ea42202a9e1a80dbfea68256fc81b24a8db2"), looks := true }, kinds := [], alts := [], laidByText := true, laidKinds := [.data, .data, .data, .data, .sentinel, .sentinel, .pinned], laidTests := true, laidLooks := .later }
def PaxOneUptoCardSaid : Prop := Claim7.holds Tryd.pinned (.plain (OpenSpec.upto paxOneSpec)) paxOneUptoCard

/-- THE SECOND FORM's CARD OF 'portmanteaulaw18.PaxNanos'. -/
def paxNanosUptoCard : Claim7 := { stood := { row := paxNanosUptoRow, standIns := [], harness := (true, "e301e28453c2fce14716663a9956ea42202a9e1a80dbfea68256fc81b24a8db2"), looks := true }, kinds := [], alts := [], laidByText := true, laidKinds := [.data, .data, .data, .data, .sentinel, .sentinel, .pinned], laidTests := true, laidLooks := .later }
def PaxNanosUptoCardSaid : Prop := Claim7.holds Tryd.pinned (.plain (OpenSpec.upto paxNanosSpec)) paxNanosUptoCard

/-- THE SECOND FORM's CARD OF 'portmanteaulaw18.PaxBack'. -/
def paxBackUptoCard : Claim7 := { stood := { row := paxBackUptoRow, standIns := [], harness := (true, "e301e28453c2fce14716663a9956ea42202a9e1a80dbfea68256fc81b24a8db2"), looks := true }, kinds := [], alts := [], laidByText := true, laidKinds := [.data, .data, .data, .data, .sentinel, .sentinel, .pinned], laidTests := true, laidLooks := .later }
def PaxBackUptoCardSaid : Prop := Claim7.holds Tryd.pinned (.plain (OpenSpec.upto paxBackSpec)) paxBackUptoCard

/-- THE SECOND FORM's CARD OF 'portmanteaulaw18.PaxBounds'. -/
def paxBoundsUptoCard : Claim7 := { stood := { row := paxBoundsUptoRow, standIns := [], harness := (true, "e301e28453c2fce14716663a9956ea42202a9e1a80dbfea68256fc81b24a8db2"), looks := true }, kinds := [], alts := [], laidByText := true, laidKinds := [.data, .data, .data, .data, .sentinel, .sentinel, .pinned], laidTests := true, laidLooks := .later }
def PaxBoundsUptoCardSaid : Prop := Claim7.holds Tryd.pinned (.plain (OpenSpec.upto paxBoundsSpec)) paxBoundsUptoCard

/-- THE SECOND FORM's CARD OF 'portmanteaulaw18.PaxTimes'. -/
def paxTimesUptoCard : Claim7 := { stood := { row := paxTimesUptoRow, standIns := [], harness := (true, "e301e28453c2fce14716663a9956ea42202a9e1a80dbfea68256fc81b24a8db2"), looks := true }, kinds := [], alts := [], laidByText := true, laidKinds := [.data, .data, .data, .data, .sentinel, .sentinel, .pinned], laidTests := true, laidLooks := .later }
def PaxTimesUptoCardSaid : Prop := Claim7.holds Tryd.pinned (.plain (OpenSpec.upto paxTimesSpec)) paxTimesUptoCard
end Rows
end Go.Proofs.YtclcgiochjibjaaDoor
