/-
  A row of rows of bytes that came in.
-/
import Derived.Test.YtffoigacpnlkgaaCrcA
import Derived.Test.YtffoigacpnlkgaaRd
namespace Go.Proofs.Ytffoigacpnlkgaa
open Go.RowKit
set_option linter.unusedVariables false

theorem cells_row : Try.prog.cellsOf 22 = 1 := by kernel_rfl
theorem choose1 {α : Type} {P : Nat → α → Prop} (h : ∀ i, ∃ a, P i a) : ∃ f : Nat → α, ∀ i, P i (f i) := ⟨fun i => (h i).choose, fun i => (h i).choose_spec⟩
theorem range_getD {α : Type} (f : Nat → α) (n i : Nat) (d : α) (hi : i < n) : ((List.range n).map f).getD i d = f i := by simp [List.getD, hi]

theorem parts_open {w : World} {v : Value} (h : Arg w 59 v) :
    ∃ (ao : Option Addr) (cap : Nat) (ps : List (List Int)), v = .slice ao ps.length cap ∧ Parts w ao ps ∧ AllP ps ∧ ps.length ≤ maxLen := by
  obtain ⟨ao, len, cap, rfl, hl, hm, hn, hc⟩ := h.slice Try.underlying59
  rw [cells_row] at hc
  have key : ∀ i, ∃ bs : List Int, AllB bs ∧ (∀ x, ao = some x → i < len → ∃ a c, w.cell? (x.add i) = some (.slice a bs.length c) ∧ Reads w a bs ∧ bs.length ≤ c ∧ c ≤ maxLen ∧ (a = none → c = 0)) := by
    intro i
    by_cases hi : i < len
    · cases ao with
      | none => exact ⟨[], (by intro b hb; cases hb), (fun x hx => by cases hx)⟩
      | some x =>
        obtain ⟨cs, hr, hcl, hcc⟩ := hc x rfl i hi
        obtain ⟨a, c, bs, rfl, h1, h2, h3, h4, h5⟩ := hr.bytes Try.underlying22
        refine ⟨bs, h4, ?_⟩
        intro y hy _
        cases hy
        exact ⟨a, c, by simpa using hcc 0 (by simp), h3, h1, h2, h5⟩
    · exact ⟨[], (by intro b hb; cases hb), (fun x _ h => absurd h hi)⟩
  obtain ⟨f, hf⟩ := choose1 key
  refine ⟨ao, cap, (List.range len).map f, by simp, ?_, ?_, by simp; omega⟩
  · by_cases h0 : len = 0
    · subst h0; exact .inl rfl
    · right
      cases ao with
      | none => exact absurd (hn rfl).1 h0
      | some x =>
        obtain ⟨a, c, hcell, _⟩ := (hf 0).2 x rfl (by omega)
        obtain ⟨b, off, spot⟩ := x
        have hs : spot = none := by
          have := World.cell?_spot hcell
          simpa [Addr.add] using this
        subst hs
        have hb := World.block_lt_of_cell? w _ hcell
        rw [addr_add] at hb
        refine ⟨b, off, rfl, hb, fun i hi => ?_⟩
        have hil : i < len := by simpa using hi
        obtain ⟨a, c, h1, h2, h3⟩ := (hf i).2 _ rfl hil
        rw [addr_add] at h1
        rw [range_getD f len i [] hil]
        exact ⟨a, c, h1, h2, h3⟩
  · intro p hp
    obtain ⟨i, _, rfl⟩ := List.mem_map.1 hp
    exact (hf i).1
end Go.Proofs.Ytffoigacpnlkgaa
