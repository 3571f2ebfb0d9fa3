/-
  sparse.Decode of an empty row that is not nil, wherever it lies.
-/
import Derived.Test.YtbambcondcikbaaDoorSpNil
import Derived.Lib.BytesEntry
namespace Go.Proofs.YtbambcondcikbaaDoor
open Go.RowKit
set_option linter.unusedVariables false
set_option linter.unusedSimpArgs false
set_option maxRecDepth 20000

theorem run_indexByteEmp (P : Program) (x : Addr) (c : Nat) (cv : Int) (w : World) : (Extern.BytealgIndexByte.indexByte #[.slice (some x) 0 c, .int .u8 cv]).run P w = .ok (.int .i64 (-1)) w := Lib.run_indexByteString (P := P) .empty cv w
set_option maxHeartbeats 1000000 in
theorem ixb_emp (x : Addr) (c : Nat) (cv : Int) (w : World) : Calls Tryd.prog 71 #[.slice (some x) 0 c, .int .u8 cv] w fun e w' => e = .returned (.int .i64 (-1)) ∧ w' = w := by
  go_enter Tryd.func71, Tryd.ntmps71
  go_wp2
  rw [run_callFunc_extern Tryd.func77 (by kernel_rfl) (by kernel_rfl) (by kernel_rfl) (e := Extern.BytealgIndexByte.indexByte) (by kernel_rfl), run_indexByteEmp]
  simp only [Result.andThen]
  rw [Oper.upon_value]
  go_wp2
  go_ret
  exact ⟨rfl, rfl⟩
set_option maxHeartbeats 1000000 in
theorem ix_emp (x : Addr) (c s d : Nat) (w : World) (h10 : w.cell? ⟨s, 0, none⟩ = some (.int .u8 10)) : Calls Tryd.prog 63 #[.slice (some x) 0 c, .slice (some ⟨s, 0, none⟩) 1 d] w fun e w' => e = .returned (.int .i64 (-1)) ∧ w' = w := by
  have HI := Lib.hid (ixb_emp x c 10 w)
  go_enter Tryd.func63, Tryd.ntmps63
  go_wp2_with fail
  with_reducible refine HI.out.mono ?_
  rintro e w1 ⟨rfl, rfl⟩
  go_wp2
  go_ret
  exact ⟨rfl, rfl⟩
set_option maxHeartbeats 2000000 in
theorem cutb_emp (x : Addr) (c s d : Nat) (w : World) (h10 : w.cell? ⟨s, 0, none⟩ = some (.int .u8 10)) :
    Calls Tryd.prog 55 #[.slice (some x) 0 c, .slice (some ⟨s, 0, none⟩) 1 d] w (NoneR w) := by
  have HI := Lib.hid (ix_emp x c s d w h10)
  clear h10
  go_enter Tryd.func55, Tryd.ntmps55
  go_wp2_with fail
  with_reducible refine HI.out.mono ?_
  rintro e w1 ⟨rfl, rfl⟩
  go_wp2
  go_ret3
  exact ⟨_, _, rfl, Kept.refl _ _⟩
set_option maxHeartbeats 2000000 in
theorem numb_emp (x : Addr) (c : Nat) (w : World) (hc : c ≤ 9223372036854775807) : Calls Tryd.prog 47 #[.slice (some x) 0 c, .int .i64 0] w (NoneR w) := by
  have HC := Lib.hid (fun (y : Addr) (s d : Nat) (W : World) h => cutb_emp y c s d W h)
  have hmn : min (0 : Int) 14 = 0 := by decide
  go_enter Tryd.func47, Tryd.ntmps47
  go_wp2_with fail
  with_reducible refine (HC.out x w.heap.size 1 (w.alloc (.cells #[.int .u8 10] 5)) (cell_new 0 rfl)).mono ?_
  rintro e w1 ⟨v1, v2, rfl, hk1⟩
  have HK1 := Lib.hid (((Kept.refl NoB w).alloc (.cells #[.int .u8 10] 5)).trans hk1)
  clear hk1
  go_wp2
  go_ret3
  exact ⟨_, _, rfl, HK1.out⟩
set_option maxHeartbeats 2000000 in
theorem pieces_emp (x : Addr) (c : Nat) (w : World) (hc : c ≤ 9223372036854775807) : Calls Tryd.prog 36 #[.slice (some x) 0 c] w fun e w' => e = .returned (.tuple #[.slice none 0 0, .bool false]) ∧ Kept NoB w w' := by
  have HC := Lib.hid (numb_emp x c w hc)
  go_enter Tryd.func36, Tryd.ntmps36
  go_wp2_with fail
  with_reducible refine HC.out.mono ?_
  rintro e w1 ⟨v1, v2, rfl, hk1⟩
  have HK1 := Lib.hid hk1
  clear hk1
  go_wp2
  go_ret2
  exact ⟨rfl, HK1.out⟩
set_option maxHeartbeats 2000000 in
theorem spdec_emp (size : Int) (x : Addr) (c : Nat) (w : World) (hc : c ≤ 9223372036854775807) : Calls Tryd.prog 18 #[.int .i64 size, .slice (some x) 0 c] w fun e w' => e = .returned (.tuple #[.slice none 0 0, .int .i64 18]) ∧ Kept NoB w w' := by
  have HC := Lib.hid (pieces_emp x c w hc)
  go_enter Tryd.func18, Tryd.ntmps18
  go_wp2_with fail
  with_reducible refine HC.out.mono ?_
  rintro e w1 ⟨rfl, hk1⟩
  have HK1 := Lib.hid hk1
  clear hk1
  go_wp2
  go_ret2
  exact ⟨rfl, HK1.out⟩
end Go.Proofs.YtbambcondcikbaaDoor
