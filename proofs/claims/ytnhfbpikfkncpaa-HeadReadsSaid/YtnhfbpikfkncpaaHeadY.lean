/-
  A slice literal of two blocks.
-/
import Derived.Test.YtnhfbpikfkncpaaHeadD
import Derived.Great.BuildSlice
namespace Go.Proofs.Ytnhfbpikfkncpaa
open Go.RowKit
set_option linter.unusedVariables false
set_option linter.unusedSimpArgs false

theorem infoHdz : (Try.prog.info? 23).map (fun i => (i.size, i.zero)) = some (12, some (.agg #[.string ⟨#[]⟩, .string ⟨#[]⟩, .string ⟨#[]⟩, .int .u8 0, .bool false, .int .i64 0, .int .i64 0, .int .i64 0, .int .i64 0, .int .i64 0, .int .i64 0, .int .i64 0])) := by kernel_rfl
theorem fill_two (a b : HdP) : Instr.fill (fun i => some (i * 12, 12)) ((Array.range (2 * 12)).map ((Value.agg #[.string ⟨#[]⟩, .string ⟨#[]⟩, .string ⟨#[]⟩, .int .u8 0, .bool false, .int .i64 0, .int .i64 0, .int .i64 0, .int .i64 0, .int .i64 0, .int .i64 0, .int .i64 0]).cells[· % (Value.agg #[.string ⟨#[]⟩, .string ⟨#[]⟩, .string ⟨#[]⟩, .int .u8 0, .bool false, .int .i64 0, .int .i64 0, .int .i64 0, .int .i64 0, .int .i64 0, .int .i64 0, .int .i64 0]).cells.size]!)) [(0, .agg (hdC a)), (1, .agg (hdC b))] = some (hdC a ++ hdC b) := by
  kernel_rfl
theorem if_w {c : Bool} {A B : Prop} (hc : c = true) (h : A) : if c = true then A else B := by rw [if_pos hc]; exact h
theorem wp_build_two {o : Oper} {a : Act} {w : World} {K : Act → World → Prop} {Q : Exit → Act → World → Prop} (x y : Operand) (ho : o.op = .buildSlice 33 2 #[(0, x), (1, y)]) (A B : HdP)
    (hx : a.eval x = .agg (hdC A)) (hy : a.eval y = .agg (hdC B))
    (h : K (a.put o.dst (.slice (some ⟨w.heap.size, 0, none⟩) 2 2)) (w.alloc (.cells (hdC A ++ hdC B) 23))) : o.wp Try.prog a w K Q := by
  have hq := infoHdz
  cases hi : Try.prog.info? 23 with
  | none => rw [hi] at hq; cases hq
  | some ie =>
    rw [hi] at hq
    simp only [Option.map_some, Option.some.injEq, Prod.mk.injEq] at hq
    refine wp_buildSlice 33 23 2 _ ho (hdC A ++ hdC B) ie _ Try.underlying33 hi hq.2 (by rw [hq.1]; decide) (by rw [hq.1]; decide) ?_ h
    rw [hq.1]
    have e : (#[(0, x), (1, y)].map fun (i, x) => (i, a.eval x)).toList = [(0, .agg (hdC A)), (1, .agg (hdC B))] := by simp [hx, hy]
    rw [e]
    exact fill_two A B
end Go.Proofs.Ytnhfbpikfkncpaa
