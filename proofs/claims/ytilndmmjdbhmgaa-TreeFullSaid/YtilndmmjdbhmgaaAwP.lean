/-
  A tree of files on paper: what the document fixes.
-/
import Derived.Test.YtilndmmjdbhmgaaFsT
namespace Go.Proofs.Ytilndmmjdbhmgaa
set_option linter.unusedVariables false
set_option linter.unusedSimpArgs false
set_option maxRecDepth 20000

def fileV : NodeV := { kind := 1, mode := 0, user := 0, group := 0, time := 0, tgt := ⟨#[]⟩, major := 0, minor := 0, size := 0, links := 0, change := 0 }
def aw1 : FsP := (makeP (newT 10) 1 [102] fileV).1
def aw2 : FsP := (writeP aw1 2 10 [97, 98, 99]).1
def aw3 : FsP := (writeP aw2 2 0 (List.replicate 9 0)).1
theorem aw_make : (makeP (newT 10) 1 [102] fileV).2 = (2, 0) := by kernel_rfl
theorem aw_write1 : (writeP aw1 2 10 [97, 98, 99]).2 = 0 := by kernel_rfl
theorem aw_write2 : (writeP aw2 2 0 (List.replicate 9 0)).2 = 5 := by kernel_rfl
theorem aw_find : findP aw3 2 [120] = (0, 12) := by kernel_rfl
theorem aw_stat : (statP aw3 2).2 = 0 ∧ (statP aw3 2).1.size = 13 := ⟨by kernel_rfl, by kernel_rfl⟩
theorem aw_used : aw3.used = 10 := by kernel_rfl
theorem aw_clock : (newT 10).clock = 0 ∧ aw1.clock = 1 ∧ aw2.clock = 2 := ⟨rfl, by kernel_rfl, by kernel_rfl⟩
theorem aw_quota : aw1.quota = 10 ∧ aw2.quota = 10 := ⟨by kernel_rfl, by kernel_rfl⟩
theorem aw_nd1 : ∃ n, aw1.nd 2 = some n ∧ n.data = [] := ⟨freshN fileV 1 1, by kernel_rfl, rfl⟩
theorem aw_nd2 : ∃ n, aw2.nd 2 = some n ∧ n.data = [(10, [97, 98, 99])] ∧ (fitP aw2 n 0 (List.replicate 9 0)).1 = 7 := ⟨wrN (freshN fileV 1 1) 2 10 [97, 98, 99], by kernel_rfl, by kernel_rfl, by kernel_rfl⟩
theorem aw_put1 : ∀ n, aw1.nd 2 = some n → PutOk n.data 10 ([97, 98, 99].take (fitP aw1 n 10 [97, 98, 99]).1) := fun n hn => by
  obtain ⟨n', h1, h2⟩ := aw_nd1
  rw [h1] at hn; cases hn
  rw [h2]
  exact putOk_free rfl
theorem aw_put2 : ∀ n, aw2.nd 2 = some n → PutOk n.data 0 ((List.replicate 9 0).take (fitP aw2 n 0 (List.replicate 9 0)).1) := fun n hn => by
  obtain ⟨n', h1, h2, h3⟩ := aw_nd2
  rw [h1] at hn; cases hn
  rw [h2, h3]
  refine putOk_free ?_
  decide
end Go.Proofs.Ytilndmmjdbhmgaa
