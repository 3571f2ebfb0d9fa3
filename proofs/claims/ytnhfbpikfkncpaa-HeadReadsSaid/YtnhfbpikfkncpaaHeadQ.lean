/-
  '!=' of a block's struct with itself.
-/
import Derived.Test.YtnhfbpikfkncpaaHeadG
import Derived.Laws.StructEq
import Derived.ChangeKeysEq
namespace Go.Proofs.Ytnhfbpikfkncpaa
open Go.RowKit
set_option linter.unusedVariables false
set_option linter.unusedSimpArgs false

theorem eqF_self (W : World) (d : Nat) (xs : Array Value) : ∀ fs : List Field, (∀ f ∈ fs, ∃ v, (part f.type xs f.offset).run Try.prog W = .ok v W ∧ (Op.equalIn d f.type v v).run Try.prog W = .ok true W) → (Op.eqFields d xs xs fs).run Try.prog W = .ok true W
  | [], _ => by simp [Op.eqFields]
  | f :: fs, h => by
    obtain ⟨v, h1, h2⟩ := h f List.mem_cons_self
    have ih := eqF_self W d xs fs (fun g hg => h g (List.mem_cons_of_mem _ hg))
    simp only [Op.eqFields]
    split
    · simp only [Sem.run_bind, h1, h2, Result.andThen_ok, if_true]
      exact ih
    · exact ih
set_option maxRecDepth 20000 in
set_option maxHeartbeats 4000000 in
theorem hd_neq_self (W : World) (h : HdP) : (binOp .neq 23 (hdV h) (hdV h)).run Try.prog W = .ok (.bool false) W := by
  unfold hdV
  rw [run_neq_struct, run_equalIn_agg _ _ _ _ _ (by kernel_rfl) (by kernel_rfl)]
  have qs : ∀ a : ByteArray, (Op.equalIn 9999 9 (.string a) (.string a)).run Try.prog W = .ok true W := fun a => by
    rw [run_equalIn_string (P := Try.prog) W 9998 9 a a Try.underlying9]; simp
  have qi : ∀ z : Int, (Op.equalIn 9999 3 (.int .i64 z) (.int .i64 z)).run Try.prog W = .ok true W := fun z => by
    rw [run_equalIn_int (P := Try.prog) W 9998 3 .i64 .i64 z z Try.underlying3]; simp
  have qu : ∀ z : Int, (Op.equalIn 9999 5 (.int .u8 z) (.int .u8 z)).run Try.prog W = .ok true W := fun z => by
    rw [run_equalIn_int (P := Try.prog) W 9998 5 .u8 .u8 z z Try.underlying5]; simp
  have qb : ∀ z : Bool, (Op.equalIn 9999 4 (.bool z) (.bool z)).run Try.prog W = .ok true W := fun z => by
    rw [run_equalIn_bool (P := Try.prog) W 9998 4 z z Try.underlying4]; simp
  rw [eqF_self W 9999 _ _ ?_]
  · simp [Result.andThen]
  intro f hf
  rw [Program.fieldsOf, Try.underlying23] at hf
  simp only [List.mem_cons, List.not_mem_nil, or_false] at hf
  rcases hf with rfl | rfl | rfl | rfl | rfl | rfl | rfl | rfl | rfl | rfl | rfl | rfl
  · exact ⟨_, run_part_plain W (by kernel_rfl) rfl, qs _⟩
  · exact ⟨_, run_part_plain W (by kernel_rfl) rfl, qs _⟩
  · exact ⟨_, run_part_plain W (by kernel_rfl) rfl, qs _⟩
  · exact ⟨_, run_part_plain W (by kernel_rfl) rfl, qu _⟩
  · exact ⟨_, run_part_plain W (by kernel_rfl) rfl, qb _⟩
  · exact ⟨_, run_part_plain W (by kernel_rfl) rfl, qi _⟩
  · exact ⟨_, run_part_plain W (by kernel_rfl) rfl, qi _⟩
  · exact ⟨_, run_part_plain W (by kernel_rfl) rfl, qi _⟩
  · exact ⟨_, run_part_plain W (by kernel_rfl) rfl, qi _⟩
  · exact ⟨_, run_part_plain W (by kernel_rfl) rfl, qi _⟩
  · exact ⟨_, run_part_plain W (by kernel_rfl) rfl, qi _⟩
  · exact ⟨_, run_part_plain W (by kernel_rfl) rfl, qi _⟩
theorem hd_guard (W : World) (x y : Operand) (h k : HdP) : (eqGuard .neq 23 x y (hdV h) (hdV k)).run Try.prog W = .ok () W := run_eqGuard_agg W .neq 23 x y _ _ (by kernel_rfl)
end Go.Proofs.Ytnhfbpikfkncpaa
