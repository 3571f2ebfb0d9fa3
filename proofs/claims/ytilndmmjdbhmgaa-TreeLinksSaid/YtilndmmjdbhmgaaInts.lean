/-
  A row of numbers that came in.
-/
import Derived.Test.YtilndmmjdbhmgaaKit
namespace Go.Proofs.Ytilndmmjdbhmgaa
open Go.RowKit
set_option linter.unusedVariables false

theorem cells_int : Try.prog.cellsOf 3 = 1 := by kernel_rfl

/-- A slice of numbers reads as zs; its block is below B. -/
def RdI (w : World) (B : Nat) (ao : Option Addr) (zs : List Int) : Prop :=
  ∀ i, i < zs.length → ∃ g off, ao = some ⟨g, off, none⟩ ∧ g < B ∧ w.cell? ⟨g, off + i, none⟩ = some (.int .i64 (zs.getD i 0))
theorem RdI.kept {S : Nat → Prop} {w w' : World} {B : Nat} {ao : Option Addr} {zs : List Int} (h : RdI w B ao zs) (hk : Kept S w w') (hs : ∀ k, k < B → ¬ S k) : RdI w' B ao zs := by
  intro i hi
  obtain ⟨g, off, h1, h2, h3⟩ := h i hi
  exact ⟨g, off, h1, h2, (World.cell?_of_block (hk.block _ (World.block_lt_of_cell? w _ h3) (hs g h2))).trans h3⟩
theorem RdI.mono {w : World} {B C : Nat} {ao : Option Addr} {zs : List Int} (h : RdI w B ao zs) (hb : B ≤ C) : RdI w C ao zs := by
  intro i hi
  obtain ⟨g, off, h1, h2, h3⟩ := h i hi
  exact ⟨g, off, h1, Nat.lt_of_lt_of_le h2 hb, h3⟩
theorem RdI.room {w : World} {B : Nat} {ao : Option Addr} {zs : List Int} (h : RdI w B ao zs) : RdI w w.heap.size ao zs := by
  intro i hi
  obtain ⟨g, off, h1, h2, h3⟩ := h i hi
  exact ⟨g, off, h1, World.block_lt_of_cell? w _ h3, h3⟩
def AllI (zs : List Int) : Prop := ∀ z ∈ zs, -9223372036854775808 ≤ z ∧ z ≤ 9223372036854775807
theorem AllI.getD {zs : List Int} (h : AllI zs) (i : Nat) : -9223372036854775808 ≤ zs.getD i 0 ∧ zs.getD i 0 ≤ 9223372036854775807 := by
  by_cases hi : i < zs.length
  · have : zs.getD i 0 = zs[i] := by simp [List.getD, hi]
    rw [this]; exact h _ (List.getElem_mem hi)
  · have : zs.getD i 0 = 0 := by simp [List.getD, List.getElem?_eq_none (Nat.le_of_not_lt hi)]
    omega

theorem Arg.ints {w : World} {v : Value} (h : Arg w 63 v) :
    ∃ (ao : Option Addr) (cap : Nat) (zs : List Int), v = .slice ao zs.length cap ∧ zs.length ≤ cap ∧ cap ≤ maxLen ∧ RdI w w.heap.size ao zs ∧ AllI zs ∧ (ao = none → cap = 0) := by
  obtain ⟨ao, len, cap, rfl, hl, hm, hn, hc⟩ := h.slice Try.underlying63
  rw [cells_int] at hc
  have key : ∀ i, ∃ z : Int, (-9223372036854775808 ≤ z ∧ z ≤ 9223372036854775807) ∧ (∀ x, ao = some x → i < len → w.cell? (x.add i) = some (.int .i64 z)) := by
    intro i
    by_cases hi : i < len
    · cases ao with
      | none => exact ⟨0, by decide, (fun x hx => by cases hx)⟩
      | some x =>
        obtain ⟨cs, hr, hcl, hcc⟩ := hc x rfl i hi
        obtain ⟨z, rfl, hz⟩ := hr.int Try.underlying3
        refine ⟨z, i64_bd hz, ?_⟩
        intro y hy _
        cases hy
        simpa using hcc 0 (by simp)
    · exact ⟨0, by decide, (fun x _ h => absurd h hi)⟩
  obtain ⟨f, hf⟩ := choose1 key
  refine ⟨ao, cap, (List.range len).map f, by simp, by simpa using hl, hm, ?_, ?_, (fun h => (hn h).2)⟩
  · intro i hi
    have hil : i < len := by simpa using hi
    cases ao with
    | none => have := (hn rfl).1; omega
    | some x =>
      have hcell := (hf i).2 x rfl hil
      obtain ⟨b, off, spot⟩ := x
      have hs : spot = none := by
        have := World.cell?_spot ((hf 0).2 _ rfl (by omega))
        simpa [Addr.add] using this
      subst hs
      rw [addr_add] at hcell
      rw [range_getD f len i 0 hil]
      exact ⟨b, off, rfl, World.block_lt_of_cell? w _ hcell, hcell⟩
  · intro z hz
    obtain ⟨i, _, rfl⟩ := List.mem_map.1 hz
    exact (hf i).1

end Go.Proofs.Ytilndmmjdbhmgaa
