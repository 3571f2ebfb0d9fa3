/-
  bytes.Clone: a copy in memory of the call's own.
-/
import Derived.Test.YtifoldonmmobpaaDoorRows
import Derived.Test.YtifoldonmmobpaaDoorBase
import Derived.Test.YtifoldonmmobpaaDoorNum
namespace Go.Proofs.YtifoldonmmobpaaDoor
open Go.RowKit
set_option linter.unusedVariables false

theorem info5 : (Tryd.prog.info? 5).map (fun i => (i.zero, i.size, i.bytes)) = some (some (.int .u8 0), 1, 1) := by kernel_rfl

/-- A slice of bytes reads as xs. -/
def Reads (w : World) (ao : Option Addr) (xs : List Int) : Prop :=
  (ao = none → xs = []) ∧ ∀ a, ao = some a → ∀ i, i < xs.length → w.cell? (a.add i) = some (.int .u8 (xs.getD i 0))

theorem Reads.kept {S : Nat → Prop} {w w' : World} {ao : Option Addr} {xs : List Int} (h : Reads w ao xs) (hk : Kept S w w') (hs : ∀ a, ao = some a → ¬ S a.block) : Reads w' ao xs := by
  refine ⟨h.1, fun a ha i hi => ?_⟩
  have hc := h.2 a ha i hi
  have hb := World.block_lt_of_cell? w _ hc
  have e : (a.add i).block = a.block := by unfold Addr.add; split <;> rfl
  exact (World.cell?_of_block (hk.block _ hb (by rw [e]; exact hs a ha))).trans hc

theorem addr_add (g o i : Nat) : (⟨g, o, none⟩ : Addr).add i = ⟨g, o + i, none⟩ := by unfold Addr.add; split <;> simp_all

theorem own_reads {w : World} {ao : Option Addr} {n cap : Nat} {xs : List Int} (h : w.ownsRow 0 5 1 (.slice ao n cap) xs.length (xs.map (.int .u8))) (hn : n = xs.length) : Reads w ao xs := by
  subst hn
  refine ⟨fun e => ?_, fun a e i hi => ?_⟩
  · subst e
    rcases h.2 with ⟨_, hz⟩ | ⟨g, c, cur, hv, _⟩
    · exact List.eq_nil_of_length_eq_zero hz
    · simp at hv
  · subst e
    obtain ⟨g, rfl⟩ : ∃ g, a = ⟨g, 0, none⟩ := by
      rcases h.2 with ⟨hv, _⟩ | ⟨g, c, cur, hv, _⟩
      · simp at hv
      · simp at hv; exact ⟨g, hv.1⟩
    rw [addr_add, Nat.zero_add, h.cellAt i (by omega)]
    simp [List.getD, hi]

/-- What a copy is: a row of the call's own, nil as before. -/
def Copied (w : World) (ao : Option Addr) (xs : List Int) (e : Ending) (w' : World) : Prop :=
  ∃ ao' cap', e = .returned (.slice ao' xs.length cap') ∧ w'.ownsRow 0 5 1 (.slice ao' xs.length cap') xs.length (xs.map (.int .u8)) ∧
    (∀ k, (Value.slice ao' xs.length cap').ownBlock = some k → w.heap.size ≤ k) ∧ (ao' = none ↔ ao = none) ∧ Kept NoB w w'

theorem own_shape {w : World} {base e : Nat} {v : Value} {n : Nat} {xs : List Value} (h : w.ownsRow base e 1 v n xs) : ∃ ao cap, v = .slice ao n cap := by
  rcases h.2 with ⟨rfl, rfl⟩ | ⟨g, cap, cur, rfl, _⟩
  · exact ⟨none, 0, rfl⟩
  · exact ⟨_, cap, rfl⟩

end Go.Proofs.YtifoldonmmobpaaDoor
