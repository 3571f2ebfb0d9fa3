/-
  name.Ok of any text.
-/
import Derived.Test.YtamoojalfpghhaaDoorStepS
import Derived.Deep.CutBlock
import Derived.Test.YtamoojalfpghhaaDoorMask
namespace Go.Proofs.YtamoojalfpghhaaDoor
open Go.RowKit Go.Shelf
set_option linter.unusedVariables false
set_option linter.unusedSimpArgs false

theorem ok_big (s : ByteArray) (w : World) (hs : (255 : Int) < (s.size : Int)) :
    Calls Tryd.prog 7 #[.string s] w fun e w' => e = .returned (.bool (okN s)) ∧ Below w.heap.size w w' := by
  have HF : Hid (okN s = false) := Lib.hid (by
    have : decide (s.size ≤ 255) = false := decide_eq_false (by omega)
    rw [okN, this]; simp)
  have h1 : ¬ s.toList = [] := by
    intro e
    have h2 : s.data.toList.length = s.size := by rw [Array.length_toList]; rfl
    rw [← Lib.toList_data, e] at h2
    simp at h2; omega
  have h2 : ¬ (s.size : Int) ≤ 255 := by omega
  go_enter Tryd.func7, Tryd.ntmps7
  go_wp2
  go_ret
  exact ⟨by rw [HF.out]; rfl, Below.refl _ _⟩
theorem ok_every (s : ByteArray) (w : World) : Calls Tryd.prog 7 #[.string s] w fun e w' => e = .returned (.bool (okN s)) ∧ Below w.heap.size w w' := by
  by_cases h : (255 : Int) < (s.size : Int)
  · exact ok_big s w h
  · exact ok_calls s w (by omega)
end Go.Proofs.YtamoojalfpghhaaDoor
