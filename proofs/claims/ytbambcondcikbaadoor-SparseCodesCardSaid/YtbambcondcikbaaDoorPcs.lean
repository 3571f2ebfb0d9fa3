/-
  Rows of pieces that are read; sparse.Ok, written, Holes.
-/
import Derived.Test.YtbambcondcikbaaDoorSpP
import Derived.Test.YtbambcondcikbaaDoorBytB
namespace Go.Proofs.YtbambcondcikbaaDoor
open Go.RowKit
set_option linter.unusedVariables false
set_option linter.unusedSimpArgs false
set_option maxRecDepth 20000

theorem cells_pc : Tryd.prog.cellsOf 30 = 2 := by kernel_rfl
/-- A row of pieces is read; its block is below n. -/
def RdP (w : World) (n : Nat) (ao : Option Addr) (l : List Pc) : Prop :=
  ∀ i, i < l.length → ∃ (b off : Nat) (bo : Option Addr) (bc : Nat), ao = some ⟨b, off, none⟩ ∧ b < n ∧ w.cell? ⟨b, off + i * 2, none⟩ = some (.int .i64 (l.getD i (0, [])).1) ∧
    w.cell? ⟨b, off + (i * 2 + 1), none⟩ = some (.slice bo (l.getD i (0, [])).2.length bc) ∧ Reads w bo (nb (l.getD i (0, [])).2) ∧ (bo = none → bc = 0) ∧ (l.getD i (0, [])).2.length ≤ bc ∧ bc ≤ maxLen
/-- Places that are ints. -/
def IntP (l : List Pc) : Prop := ∀ p ∈ l, -9223372036854775808 ≤ p.1 ∧ p.1 ≤ 9223372036854775807
theorem IntP.at {l : List Pc} (h : IntP l) (i : Nat) (hi : i < l.length) : -9223372036854775808 ≤ (l.getD i (0, [])).1 ∧ (l.getD i (0, [])).1 ≤ 9223372036854775807 := by
  have : l.getD i (0, []) = l[i] := by simp [List.getD, hi]
  rw [this]; exact h _ (List.getElem_mem hi)
theorem RdP.kept {w w' : World} {n : Nat} {ao : Option Addr} {l : List Pc} (h : RdP w n ao l) (hk : Kept NoB w w') : RdP w' n ao l := by
  intro i hi
  obtain ⟨b, off, bo, bc, h1, h2, h3, h4, h5, h6⟩ := h i hi
  exact ⟨b, off, bo, bc, h1, h2, hk.cell h3, hk.cell h4, h5.keptNo hk, h6⟩
theorem RdP.room {w : World} {n m : Nat} {ao : Option Addr} {l : List Pc} (h : RdP w n ao l) (hm : n ≤ m) : RdP w m ao l := by
  intro i hi
  obtain ⟨b, off, bo, bc, h1, h2, h3⟩ := h i hi
  exact ⟨b, off, bo, bc, h1, by omega, h3⟩
theorem pcs_open {w : World} {v : Value} (h : Arg w 31 v) :
    ∃ (ao : Option Addr) (cap : Nat) (l : List Pc), v = .slice ao l.length cap ∧ RdP w w.heap.size ao l ∧ l.length ≤ cap ∧ cap ≤ maxLen ∧ (ao = none → cap = 0) ∧ IntP l := by
  obtain ⟨ao, len, cap, rfl, hl, hm, hn, hc⟩ := h.slice Tryd.underlying31
  rw [cells_pc] at hc
  have key : ∀ i, ∃ p : Pc, (-9223372036854775808 ≤ p.1 ∧ p.1 ≤ 9223372036854775807) ∧ (∀ x, ao = some x → i < len → ∃ (bo : Option Addr) (bc : Nat), w.cell? (x.add (i * 2)) = some (.int .i64 p.1) ∧ w.cell? (x.add (i * 2 + 1)) = some (.slice bo p.2.length bc) ∧ Reads w bo (nb p.2) ∧ (bo = none → bc = 0) ∧ p.2.length ≤ bc ∧ bc ≤ maxLen) := by
    intro i
    by_cases hi : i < len
    · cases ao with
      | none => exact ⟨(0, []), by decide, (fun x hx => by cases hx)⟩
      | some x =>
        obtain ⟨cs, hr, hcl, hcc⟩ := hc x rfl i hi
        obtain ⟨_, hf⟩ := hr.struct Tryd.underlying30
        match cs, hcl with
        | [c0, c1], _ =>
          have i1 : Tryd.prog.cellsOf 3 = 1 := by kernel_rfl
          have i2 : Tryd.prog.cellsOf 26 = 1 := by kernel_rfl
          have r0 := hf 0 _ rfl
          have r1 := hf 1 _ rfl
          simp [i1, i2] at r0 r1
          obtain ⟨z, ez, wz⟩ := r0.int Tryd.underlying3
          obtain ⟨bo, bc, bs, eb, h1, h2, h3, h4, h5⟩ := r1.bytes Tryd.underlying26
          simp at ez eb
          subst ez eb
          have hu := nb_un h4
          have hul : (un bs).length = bs.length := by simp [un]
          refine ⟨(z, un bs), i64_bd wz, ?_⟩
          intro y hy _
          cases hy
          refine ⟨bo, bc, by simpa using hcc 0 (by simp), ?_, by simp only; rw [hu]; exact h3, h5, by simp only; omega, h2⟩
          simp only [hul]
          simpa using hcc 1 (by simp)
    · exact ⟨(0, []), by decide, (fun x _ h => absurd h hi)⟩
  obtain ⟨f, hf⟩ := choose1 key
  refine ⟨ao, cap, (List.range len).map f, by simp, ?_, by simpa using hl, hm, (fun h => (hn h).2), ?_⟩
  · intro i hi
    have hil : i < len := by simpa using hi
    cases ao with
    | none => have := (hn rfl).1; omega
    | some x =>
      obtain ⟨bo, bc, h1, h2, h3, h4, h5⟩ := (hf i).2 x rfl hil
      obtain ⟨b, off, spot⟩ := x
      have hs : spot = none := by
        obtain ⟨_, _, q1, _⟩ := (hf 0).2 _ rfl (by omega)
        have := World.cell?_spot q1
        simpa [Addr.add] using this
      subst hs
      rw [addr_add] at h1 h2
      rw [range_getD f len i (0, []) hil]
      exact ⟨b, off, bo, bc, rfl, World.block_lt_of_cell? w _ h1, h1, h2, h3, h4, h5⟩
  · intro z hz
    obtain ⟨i, _, rfl⟩ := List.mem_map.1 hz
    exact (hf i).1
end Go.Proofs.YtbambcondcikbaaDoor
