/-
  strings.ContainsAny at "/\x00"; name.Ok.
-/
import Derived.Test.YtilndmmjdbhmgaaOkP
import Derived.Test.YtilndmmjdbhmgaaRuneB
namespace Go.Proofs.Ytilndmmjdbhmgaa
open Go.RowKit Go.Shelf
set_option linter.unusedVariables false
set_option linter.unusedSimpArgs false

theorem indexAny_any (s : ByteArray) (w : World) (hs : s.size < 4294967281) :
    Calls Try.prog 95 #[.string s, .string s47] w fun e w' => e = .returned (.int .i64 (Lib.indexAny s.data.toList [47, 0])) ∧ Below w.heap.size w w' := by
  by_cases h8 : s.size ≤ 8
  · exact indexAny_short s w h8
  · have hac : ∀ (j : Nat) (b : UInt8), s47.data.toList[j]? = some b → b.toNat < 128 := by
      intro j b hb
      rw [data47] at hb
      rcases (show j = 0 ∨ j = 1 ∨ 2 ≤ j by omega) with rfl | rfl | h
      · simp at hb; subst hb; decide
      · simp at hb; subst hb; decide
      · rw [List.getElem?_eq_none (by simpa using h)] at hb; cases hb
    refine (Try.strings_IndexAny_long (zero_of_info (P := Try.prog) (t := 162) (n := 256) (by kernel_rfl)).1 s s47 w (by decide) (by omega) hs (by decide) hac).mono ?_
    rintro e w' ⟨rfl, rfl⟩
    exact ⟨rfl, ((Below.refl _ w).alloc (Nat.le_refl _) _).alloc (by simp) _⟩
set_option maxHeartbeats 1000000 in
theorem containsAny_any (s : ByteArray) (w : World) (hs : s.size < 4294967281) :
    Calls Try.prog 85 #[.string s, .string s47] w fun e w' => e = .returned (.bool (decide (0 ≤ Lib.indexAny s.data.toList [47, 0]))) ∧ Below w.heap.size w w' := by
  go_enter Try.func85, Try.ntmps85
  go_wp2_with fail
  refine (indexAny_any s w hs).mono ?_
  rintro e w1 ⟨rfl, hb⟩
  go_wp2
  go_ret
  exact ⟨rfl, hb⟩

set_option maxHeartbeats 1000000 in
theorem ok_calls (s : ByteArray) (w : World) (hs : s.size < 4294967281) :
    Calls Try.prog 69 #[.string s] w fun e w' => e = .returned (.bool (okN s)) ∧ Below w.heap.size w w' := by
  have HC := Lib.hid (containsAny_any s w hs)
  have HO : Hid (okN s = (!s.toList.isEmpty && decide (s.size ≤ 255) && !(s.toList == [46]) && !(s.toList == [46, 46]) && !decide (0 ≤ Lib.indexAny s.data.toList [47, 0]))) := Lib.hid rfl
  obtain ⟨b, hb⟩ : ∃ b, b = decide (0 ≤ Lib.indexAny s.data.toList [47, 0]) := ⟨_, rfl⟩
  rw [← hb] at HC HO
  clear hb
  go_enter Try.func69, Try.ntmps69
  by_cases h1 : s.toList = []
  · have HF : Hid (okN s = false) := Lib.hid (by rw [HO.out, h1]; rfl)
    go_wp2
    go_ret
    exact ⟨by rw [HF.out]; rfl, Below.refl _ _⟩
  · by_cases h2 : (s.size : Int) ≤ 255
    · by_cases h3 : s.toList = [46]
      · have HF : Hid (okN s = false) := Lib.hid (by rw [HO.out, h3]; simp)
        go_wp2
        go_ret
        exact ⟨by rw [HF.out]; rfl, Below.refl _ _⟩
      · by_cases h4 : s.toList = [46, 46]
        · have HF : Hid (okN s = false) := Lib.hid (by rw [HO.out, h4]; simp)
          go_wp2
          go_ret
          exact ⟨by rw [HF.out]; rfl, Below.refl _ _⟩
        · have HF : Hid (okN s = !b) := Lib.hid (by
            have e1 : s.toList.isEmpty = false := by simpa using h1
            have e2 : decide (s.size ≤ 255) = true := decide_eq_true (by omega)
            have e3 : (s.toList == [46]) = false := by simpa using h3
            have e4 : (s.toList == [46, 46]) = false := by simpa using h4
            rw [HO.out, e1, e2, e3, e4]; rfl)
          have HG : Hid ((!s.toList.isEmpty && !(s.toList == [46]) && !(s.toList == [46, 46]) && !b) = !b) := Lib.hid (by
            have e1 : s.toList.isEmpty = false := by simpa using h1
            have e3 : (s.toList == [46]) = false := by simpa using h3
            have e4 : (s.toList == [46, 46]) = false := by simpa using h4
            rw [e1, e3, e4]; rfl)
          go_wp2_with fail
          refine HC.out.mono ?_
          rintro e w1 ⟨rfl, hb2⟩
          have HB := Lib.hid hb2
          clear hb2
          go_wp2
          go_ret
          exact ⟨by rw [HF.out]; exact congrArg (fun x => Ending.returned (.bool x)) HG.out, HB.out⟩
    · have HF : Hid (okN s = false) := Lib.hid (by
        have e2 : decide (s.size ≤ 255) = false := decide_eq_false (by omega)
        rw [HO.out, e2]; simp)
      go_wp2
      go_ret
      exact ⟨by rw [HF.out]; rfl, Below.refl _ _⟩
end Go.Proofs.Ytilndmmjdbhmgaa
