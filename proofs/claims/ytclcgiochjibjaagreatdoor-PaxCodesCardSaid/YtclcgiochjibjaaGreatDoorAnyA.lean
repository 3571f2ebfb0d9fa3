/-
  strings.ContainsAny at "/\x00"; name.Ok.
-/
import Derived.Test.YtclcgiochjibjaaGreatDoorRunB
namespace Go.Proofs.YtclcgiochjibjaaGreatDoor
open Go.RowKit Go.Shelf
set_option linter.unusedVariables false
set_option linter.unusedSimpArgs false

theorem indexAny_any (s : ByteArray) (w : World) (hs : s.size < 4294967281) :
    Calls Tryz.prog 51 #[.string s, .string s61] w fun e w' => e = .returned (.int .i64 (Lib.indexAny s.data.toList [61, 10, 0])) ∧ Below w.heap.size w w' := by
  by_cases h8 : s.size ≤ 8
  · exact indexAny_short s w h8
  · have hac : ∀ (j : Nat) (b : UInt8), s61.data.toList[j]? = some b → b.toNat < 128 := by
      intro j b hb
      rw [data61] at hb
      rcases (show j = 0 ∨ j = 1 ∨ j = 2 ∨ 3 ≤ j by omega) with rfl | rfl | rfl | h
      · simp at hb; subst hb; decide
      · simp at hb; subst hb; decide
      · simp at hb; subst hb; decide
      · rw [List.getElem?_eq_none (by simpa using h)] at hb; cases hb
    refine (Tryz.strings_IndexAny_long (zero_of_info (P := Tryz.prog) (t := 75) (n := 256) (by kernel_rfl)).1 s s61 w (by decide) (by omega) hs (by decide) hac).mono ?_
    rintro e w' ⟨rfl, rfl⟩
    exact ⟨rfl, ((Below.refl _ w).alloc (Nat.le_refl _) _).alloc (by simp) _⟩
set_option maxHeartbeats 1000000 in
theorem containsAny_any (s : ByteArray) (w : World) (hs : s.size < 4294967281) :
    Calls Tryz.prog 29 #[.string s, .string s61] w fun e w' => e = .returned (.bool (decide (0 ≤ Lib.indexAny s.data.toList [61, 10, 0]))) ∧ Below w.heap.size w w' := by
  go_enter Tryz.func29, Tryz.ntmps29
  go_wp2_with fail
  refine (indexAny_any s w hs).mono ?_
  rintro e w1 ⟨rfl, hb⟩
  go_wp2
  go_ret
  exact ⟨rfl, hb⟩

end Go.Proofs.YtclcgiochjibjaaGreatDoor
