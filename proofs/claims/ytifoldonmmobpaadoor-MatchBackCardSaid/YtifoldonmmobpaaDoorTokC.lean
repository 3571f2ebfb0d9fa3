/-
  Put: a token behind bytes, in memory of its own.
-/
import Derived.Test.YtifoldonmmobpaaDoorTokB
namespace Go.Proofs.YtifoldonmmobpaaDoor
open Go.RowKit
set_option linter.unusedVariables false
set_option linter.unusedSimpArgs false

theorem Kept.own {S : Nat → Prop} {a b c : World} (h : Kept NoB a b) (k : Kept S b c) (hs : ∀ i, S i → a.heap.size ≤ i) : Kept NoB a c :=
  ⟨k.os.trans h.os, k.tape.trans h.tape, k.output.trans h.output, Nat.le_trans h.size k.size, fun i hi _ => (k.block i (Nat.lt_of_lt_of_le hi h.size) (fun s => by have := hs i s; omega)).trans (h.block i hi (fun h => h))⟩

/-- A row of the call's own. -/
def Made (w : World) (xs : List Int) (ao : Option Addr) (cap : Nat) (w' : World) : Prop :=
  w'.ownsRow 0 5 1 (.slice ao xs.length cap) xs.length (xs.map (.int .u8)) ∧ (∀ k, (Value.slice ao xs.length cap).ownBlock = some k → w.heap.size ≤ k) ∧ Kept NoB w w'
theorem Made.reads {w w' : World} {xs : List Int} {ao : Option Addr} {cap : Nat} (h : Made w xs ao cap w') : Reads w' ao xs := own_reads h.1 rfl

end Go.Proofs.YtifoldonmmobpaaDoor
