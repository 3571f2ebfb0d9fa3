/-
  A row of bytes made of a string: one byte stored, a text copied onto it.
-/
import Derived.Test.YtnhfbpikfkncpaaMark
import Derived.Test.YtnhfbpikfkncpaaHeadF
namespace Go.Proofs.Ytnhfbpikfkncpaa
open Go.RowKit
set_option linter.unusedVariables false
set_option linter.unusedSimpArgs false

theorem OwnM.at {w : World} {g cap : Nat} {n : Nat} {bs : List Int} (h : OwnM w (.slice (some ⟨g, 0, none⟩) n cap) bs) : n = bs.length ∧ ∃ cur fz, w.heap[g]? = some (.cells cur 5 fz) ∧ (cur.size ≤ fz.1 ∨ fz.2 = 0) ∧ bs.length ≤ cap ∧ cap ≤ maxLen ∧ cur.size = cap ∧ cur.toList.take bs.length = bs.map (.int .u8) := by
  rcases h with ⟨h1, _⟩ | ⟨g', cap', cur, fz, h1, h2⟩
  · simp at h1
  · simp at h1
    obtain ⟨rfl, rfl, rfl⟩ := h1
    exact ⟨rfl, cur, fz, h2⟩
theorem OwnM.free {w : World} {g cap n : Nat} {bs : List Int} (h : OwnM w (.slice (some ⟨g, 0, none⟩) n cap) bs) (j : Nat) (hj : j < n) : w.frozen? ⟨g, j, none⟩ = false := by
  obtain ⟨hn, cur, fz, hg, hfz, hnc, hcm, hcs, htk⟩ := h.at
  unfold World.frozen?
  rw [hg]
  obtain ⟨lo, hi'⟩ := fz
  simp only [Bool.and_eq_false_iff, decide_eq_false_iff_not]
  simp only at hfz
  rcases hfz with h | h
  · left; omega
  · right; omega
theorem OwnM.set {w : World} {g cap n : Nat} {bs : List Int} (h : OwnM w (.slice (some ⟨g, 0, none⟩) n cap) bs) (j : Nat) (v : Int) (hj : j < n) : OwnM (w.setCell ⟨g, j, none⟩ (.int .u8 v)) (.slice (some ⟨g, 0, none⟩) n cap) (bs.set j v) := by
  obtain ⟨hn, cur, fz, hg, hfz, hnc, hcm, hcs, htk⟩ := h.at
  have hset : (w.setCell ⟨g, j, none⟩ (.int .u8 v)).heap[g]? = some (.cells (cur.setIfInBounds j (.int .u8 v)) 5 fz) := by
    rw [setCell_eq_setRow w g _ cur _ fz _ hg]
    exact setRow_heap w g cur _ _ fz hg
  refine .inr ⟨g, cap, _, fz, by simp [hn], hset, by simpa using hfz, by simpa using hnc, hcm, by simpa using hcs, ?_⟩
  rw [List.length_set, List.map_set, ← htk, Array.toList_setIfInBounds, List.take_set]
end Go.Proofs.Ytnhfbpikfkncpaa
