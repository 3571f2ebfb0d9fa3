/-
  A byte of a row with a mark is changed; other rows stand.
-/
import Derived.Test.YtbambcondcikbaaDoorMark
namespace Go.Proofs.YtbambcondcikbaaDoor
open Go.RowKit
set_option linter.unusedVariables false

theorem own_capM {w : World} {g cap : Nat} {bs : List Int} (h : OwnM w (.slice (some ⟨g, 0, none⟩) bs.length cap) bs) : bs.length ≤ cap ∧ cap ≤ 9223372036854775807 := by
  rcases h with ⟨h1, _⟩ | ⟨g', cap', cur, fz, h1, hg, hfz, hnc, hcm, _⟩
  · simp at h1
  · simp at h1; unfold maxLen at hcm; omega
/-- One byte of such a row is changed. -/
theorem OwnM.set {w : World} {g cap : Nat} {bs : List Int} (h : OwnM w (.slice (some ⟨g, 0, none⟩) bs.length cap) bs) (j : Nat) (hj : j < bs.length) (z : Int) :
    w.frozen? ⟨g, j, none⟩ = false ∧ OwnM (w.setCell ⟨g, j, none⟩ (.int .u8 z)) (.slice (some ⟨g, 0, none⟩) (bs.set j z).length cap) (bs.set j z) := by
  rcases h with ⟨h1, _⟩ | ⟨g', cap', cur, fz, h1, hg, hfz, hnc, hcm, hcs, htk⟩
  · simp at h1
  · simp at h1
    obtain ⟨rfl, rfl⟩ := h1
    refine ⟨?_, ?_⟩
    · unfold World.frozen?
      rw [hg]
      obtain ⟨lo, hi'⟩ := fz
      simp only [Bool.and_eq_false_iff, decide_eq_false_iff_not]
      simp only at hfz
      rcases hfz with h | h
      · left; omega
      · right; omega
    · have hset : (w.setCell ⟨g, j, none⟩ (.int .u8 z)).heap[g]? = some (.cells (cur.setIfInBounds j (.int .u8 z)) 5 fz) := by
        rw [setCell_eq_setRow w g _ cur _ fz _ hg]
        exact setRow_heap w g cur _ _ fz hg
      rw [List.length_set]
      refine .inr ⟨g, cap, _, fz, by simp, hset, by simpa using hfz, by simpa using hnc, hcm, by simpa using hcs, ?_⟩
      rw [List.length_set, Array.toList_setIfInBounds, List.take_set, htk, List.map_set]

/-- A row that was there is not touched by a store into a block that is newer. -/
theorem Reads.setOther {w0 w : World} {ao : Option Addr} {bs : List Int} (h : Reads w0 ao bs) (hk : Kept NoB w0 w) {G : Nat} (hG : w0.heap.size ≤ G) (j : Nat) (u : Value) : Reads (w.setCell ⟨G, j, none⟩ u) ao bs := by
  by_cases he : bs = []
  · subst he
    refine ⟨fun _ => rfl, fun a _ i hi => ?_⟩
    cases hi
  · obtain ⟨b, off, rfl, hlt, _⟩ := h.at (by cases bs with | nil => exact absurd rfl he | cons => simp)
    refine (h.keptNo hk).kept (Kept.setCell (S := OneB G) (p := ⟨G, j, none⟩) (Kept.refl _ w) (.inl rfl) u) ?_
    intro a e hs
    cases e
    have : b = G := hs
    omega
theorem xor_u8 (a b : Int) : 0 ≤ bits .xor .u8 a b ∧ bits .xor .u8 a b < 256 := by
  show 0 ≤ IntKind.u8.wrap _ ∧ IntKind.u8.wrap _ < 256
  rw [IntKind.wrap_u8]
  omega

end Go.Proofs.YtbambcondcikbaaDoor
