/-
  What the laws of entries as trees stand on, in one place.
-/
import Derived.Test.YtgbakogihkdddaaGreatDoorMx21
namespace Go.Proofs.YtgbakogihkdddaaGreatDoor
theorem exTop_here : True := trivial
end Go.Proofs.YtgbakogihkdddaaGreatDoor
