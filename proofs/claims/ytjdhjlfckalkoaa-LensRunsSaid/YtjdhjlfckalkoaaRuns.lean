/-
  Runs that came in; rows of runs of the call's own.
-/
import Derived.Test.YtjdhjlfckalkoaaRFlat
namespace Go.Proofs.Ytjdhjlfckalkoaa
open Go.RowKit
set_option linter.unusedVariables false
set_option linter.unusedSimpArgs false

theorem cells_run : Try.prog.cellsOf 32 = 2 := by kernel_rfl
theorem infoR : (Try.prog.info? 32).map (fun i => (i.zero, i.size, i.bytes)) = some (some (.agg #[.int .i64 0, .int .i64 0]), 2, 16) := by kernel_rfl
def AllR (rs : List (Int × Int)) : Prop := ∀ p ∈ rs, (-9223372036854775808 ≤ p.1 ∧ p.1 ≤ 9223372036854775807) ∧ (-9223372036854775808 ≤ p.2 ∧ p.2 ≤ 9223372036854775807)
theorem AllR.getD {rs : List (Int × Int)} (h : AllR rs) (i : Nat) : (-9223372036854775808 ≤ (rs.getD i (0, 0)).1 ∧ (rs.getD i (0, 0)).1 ≤ 9223372036854775807) ∧ (-9223372036854775808 ≤ (rs.getD i (0, 0)).2 ∧ (rs.getD i (0, 0)).2 ≤ 9223372036854775807) := by
  by_cases hi : i < rs.length
  · have : rs.getD i (0, 0) = rs[i] := by simp [List.getD, hi]
    rw [this]; exact h _ (List.getElem_mem hi)
  · have : rs.getD i (0, 0) = (0, 0) := by simp [List.getD, List.getElem?_eq_none (Nat.le_of_not_lt hi)]
    rw [this]; exact ⟨by decide, by decide⟩
theorem runs_open {w : World} {v : Value} (h : Arg w 23 v) :
    ∃ (ao : Option Addr) (cap : Nat) (rs : List (Int × Int)), v = .slice ao rs.length cap ∧ RdRn w w.heap.size ao rs ∧ AllR rs ∧ rs.length ≤ cap ∧ cap ≤ maxLen ∧ (ao = none → cap = 0) := by
  obtain ⟨ao, len, cap, rfl, hl, hm, hn, hc⟩ := h.slice Try.underlying23
  rw [cells_run] at hc
  have key : ∀ i, ∃ p : Int × Int, ((-9223372036854775808 ≤ p.1 ∧ p.1 ≤ 9223372036854775807) ∧ (-9223372036854775808 ≤ p.2 ∧ p.2 ≤ 9223372036854775807)) ∧ (∀ x, ao = some x → i < len → w.cell? (x.add (i * 2)) = some (.int .i64 p.1) ∧ w.cell? (x.add (i * 2 + 1)) = some (.int .i64 p.2)) := by
    intro i
    by_cases hi : i < len
    · cases ao with
      | none => exact ⟨(0, 0), ⟨by decide, by decide⟩, (fun x hx => by cases hx)⟩
      | some x =>
        obtain ⟨cs, hr, hcl, hcc⟩ := hc x rfl i hi
        obtain ⟨_, hf⟩ := hr.struct Try.underlying32
        match cs, hcl with
        | [c0, c1], _ =>
          have i64c : Try.prog.cellsOf 3 = 1 := by kernel_rfl
          have r0 := hf 0 _ rfl
          have r1 := hf 1 _ rfl
          simp [i64c] at r0 r1
          obtain ⟨a, ea, wa⟩ := r0.int Try.underlying3
          obtain ⟨b, eb, wb⟩ := r1.int Try.underlying3
          simp at ea eb
          subst ea eb
          refine ⟨(a, b), ⟨i64_bd wa, i64_bd wb⟩, ?_⟩
          intro y hy _
          cases hy
          exact ⟨by simpa using hcc 0 (by simp), by simpa using hcc 1 (by simp)⟩
    · exact ⟨(0, 0), ⟨by decide, by decide⟩, (fun x _ h => absurd h hi)⟩
  obtain ⟨f, hf⟩ := choose1 key
  refine ⟨ao, cap, (List.range len).map f, by simp, ?_, ?_, by simpa using hl, hm, (fun h => (hn h).2)⟩
  · intro i hi
    have hil : i < len := by simpa using hi
    cases ao with
    | none => have := (hn rfl).1; omega
    | some x =>
      have hcell := (hf i).2 x rfl hil
      obtain ⟨b, off, spot⟩ := x
      have hs : spot = none := by
        have := World.cell?_spot ((hf 0).2 _ rfl (by omega)).1
        simpa [Addr.add] using this
      subst hs
      rw [addr_add, addr_add] at hcell
      rw [range_getD f len i (0, 0) hil]
      exact ⟨b, off, rfl, World.block_lt_of_cell? w _ hcell.1, hcell.1, hcell.2⟩
  · intro z hz
    obtain ⟨i, _, rfl⟩ := List.mem_map.1 hz
    exact (hf i).1

/-- The cells of runs. -/
def rcells (rs : List (Int × Int)) : List Value := rs.flatMap fun p => [.int .i64 p.1, .int .i64 p.2]
theorem rcells_len (rs : List (Int × Int)) : (rcells rs).length = rs.length * 2 := by
  induction rs with
  | nil => rfl
  | cons p r ih => simp [rcells] at ih ⊢; omega
theorem rcells_app (rs : List (Int × Int)) (s x : Int) : rcells rs ++ [.int .i64 s, .int .i64 x] = rcells (rs ++ [(s, x)]) := by simp [rcells]
theorem rcells_at : ∀ (rs : List (Int × Int)) (i : Nat), i < rs.length → (rcells rs)[i * 2]? = some (.int .i64 (rs.getD i (0, 0)).1) ∧ (rcells rs)[i * 2 + 1]? = some (.int .i64 (rs.getD i (0, 0)).2) := by
  intro rs
  induction rs with
  | nil => intro i hi; simp at hi
  | cons p r ih =>
    intro i hi
    have e : rcells (p :: r) = .int .i64 p.1 :: .int .i64 p.2 :: rcells r := by simp [rcells]
    rw [e]
    cases i with
    | zero => exact ⟨rfl, rfl⟩
    | succ i =>
      have hi' : i < r.length := by simpa using hi
      obtain ⟨h1, h2⟩ := ih i hi'
      rw [show (i + 1) * 2 = i * 2 + 1 + 1 by omega]
      refine ⟨?_, ?_⟩
      · simpa using h1
      · rw [List.getElem?_cons_succ, List.getElem?_cons_succ]; simpa using h2
/-- A row of runs of the call's own. -/
def OwnR (w : World) (ao : Option Addr) (cap : Nat) (rs : List (Int × Int)) : Prop := w.ownsRow 0 32 2 (.slice ao rs.length cap) rs.length (rcells rs)
theorem OwnR.reads {w : World} {a : Option Addr} {c : Nat} {rs : List (Int × Int)} (h : OwnR w a c rs) : RdRn w w.heap.size a rs := by
  intro i hi
  rcases h.2 with ⟨_, hz⟩ | ⟨g, cc, cur, hv, _⟩
  · omega
  · simp at hv
    obtain ⟨rfl, rfl⟩ := hv
    obtain ⟨h1, h2⟩ := rcells_at rs i hi
    have hc1 : w.cell? ⟨g, i * 2, none⟩ = some (.int .i64 (rs.getD i (0, 0)).1) := by
      rw [← h1]; exact h.cellAt (i * 2) (by omega)
    have hc2 : w.cell? ⟨g, i * 2 + 1, none⟩ = some (.int .i64 (rs.getD i (0, 0)).2) := by
      rw [← h2]; exact h.cellAt (i * 2 + 1) (by omega)
    exact ⟨g, 0, rfl, World.block_lt_of_cell? w _ hc1, by rw [Nat.zero_add]; exact hc1, by rw [Nat.zero_add]; exact hc2⟩
theorem own_shape2 {w : World} {base e s : Nat} {v : Value} {n : Nat} {xs : List Value} (h : w.ownsRow base e s v n xs) : ∃ ao cap, v = .slice ao n cap := by
  rcases h.2 with ⟨rfl, rfl⟩ | ⟨g, cap, cur, rfl, _⟩
  · exact ⟨none, 0, rfl⟩
  · exact ⟨_, cap, rfl⟩
end Go.Proofs.Ytjdhjlfckalkoaa
