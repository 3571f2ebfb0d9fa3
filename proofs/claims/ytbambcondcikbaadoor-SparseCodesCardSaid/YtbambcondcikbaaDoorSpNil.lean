/-
  sparse.Decode of nil.
-/
import Derived.Test.YtbambcondcikbaaDoorSpDec
namespace Go.Proofs.YtbambcondcikbaaDoor
open Go.RowKit
set_option linter.unusedVariables false
set_option linter.unusedSimpArgs false

/-- Not found. -/
def NoneR (w : World) (e : Ending) (w' : World) : Prop := ∃ v1 v2, e = .returned (.tuple #[v1, v2, .bool false]) ∧ Kept NoB w w'
set_option maxRecDepth 20000 in
set_option maxHeartbeats 2000000 in
theorem cutb_nil (s d : Nat) (w : World) (h10 : w.cell? ⟨s, 0, none⟩ = some (.int .u8 10)) :
    Calls Tryd.prog 55 #[.slice none 0 0, .slice (some ⟨s, 0, none⟩) 1 d] w (NoneR w) := by
  have HI := Lib.hid (Tryd.bytes_Index_one_nil s 0 d 10 w h10)
  clear h10
  go_enter Tryd.func55, Tryd.ntmps55
  go_wp2_with fail
  with_reducible refine HI.out.mono ?_
  rintro e w1 ⟨rfl, rfl⟩
  go_wp2
  go_ret3
  exact ⟨_, _, rfl, Kept.refl _ _⟩
set_option maxRecDepth 20000 in
set_option maxHeartbeats 2000000 in
theorem numb_nil (w : World) : Calls Tryd.prog 47 #[.slice none 0 0, .int .i64 0] w (NoneR w) := by
  have HC := Lib.hid (fun (s d : Nat) (W : World) h => cutb_nil s d W h)
  have hmn : min (0 : Int) 14 = 0 := by decide
  go_enter Tryd.func47, Tryd.ntmps47
  go_wp2_with fail
  with_reducible refine (HC.out w.heap.size 1 (w.alloc (.cells #[.int .u8 10] 5)) (cell_new 0 rfl)).mono ?_
  rintro e w1 ⟨v1, v2, rfl, hk1⟩
  have HK1 := Lib.hid (((Kept.refl NoB w).alloc (.cells #[.int .u8 10] 5)).trans hk1)
  clear hk1
  go_wp2
  go_ret3
  exact ⟨_, _, rfl, HK1.out⟩
set_option maxRecDepth 20000 in
set_option maxHeartbeats 2000000 in
theorem pieces_nil (w : World) : Calls Tryd.prog 36 #[.slice none 0 0] w fun e w' => e = .returned (.tuple #[.slice none 0 0, .bool false]) ∧ Kept NoB w w' := by
  have HC := Lib.hid (numb_nil w)
  go_enter Tryd.func36, Tryd.ntmps36
  go_wp2_with fail
  with_reducible refine HC.out.mono ?_
  rintro e w1 ⟨v1, v2, rfl, hk1⟩
  have HK1 := Lib.hid hk1
  clear hk1
  go_wp2
  go_ret2
  exact ⟨rfl, HK1.out⟩
set_option maxRecDepth 20000 in
set_option maxHeartbeats 2000000 in
theorem spdec_nil (size : Int) (w : World) : Calls Tryd.prog 18 #[.int .i64 size, .slice none 0 0] w fun e w' => e = .returned (.tuple #[.slice none 0 0, .int .i64 18]) ∧ Kept NoB w w' := by
  have HC := Lib.hid (pieces_nil w)
  go_enter Tryd.func18, Tryd.ntmps18
  go_wp2_with fail
  with_reducible refine HC.out.mono ?_
  rintro e w1 ⟨rfl, hk1⟩
  have HK1 := Lib.hid hk1
  clear hk1
  go_wp2
  go_ret2
  exact ⟨rfl, HK1.out⟩
end Go.Proofs.YtbambcondcikbaaDoor
