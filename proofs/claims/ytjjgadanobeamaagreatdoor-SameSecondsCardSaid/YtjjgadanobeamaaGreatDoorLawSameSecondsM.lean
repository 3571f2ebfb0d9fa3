/-
  The law SameSeconds.
-/
import Derived.Test.YtjjgadanobeamaaGreatDoorMs15
namespace Go.Proofs.YtjjgadanobeamaaGreatDoor
open Go.RowKit
set_option linter.unusedVariables false
set_option linter.unusedSimpArgs false
set_option maxRecDepth 20000

set_option maxHeartbeats 4000000 in
theorem sameSeconds_core (n : Int) (w : World) (hn : -9223372036854775808 ≤ n ∧ n ≤ 9223372036854775807) (htab : Pow10 w) : Calls Tryz.prog 4 #[.int .i64 n] w fun e w' => e = .returned (.bool true) ∧ Kept NoB w w' := by
  have HAw := Lib.hid (awake15_any w htab)
  obtain ⟨m, hm⟩ : ∃ m, m = n / 2 := ⟨_, rfl⟩
  have hmb : -4611686018427387904 ≤ m ∧ m ≤ 4611686018427387903 := by omega
  obtain ⟨s, hs⟩ : ∃ s, s = m / 1000000000 := ⟨_, rfl⟩
  have HSe : Hid (Calls Tryz.prog 15 #[.int .i64 m] w fun e w' => e = .returned (.int .i64 s) ∧ w = w') := Lib.hid (by rw [hs]; exact secs_any m w (by omega))
  have h1 : s * 1000000000 ≤ m := by omega
  have h2 : m - s * 1000000000 < 1000000000 := by omega
  have h3 : wrap64 (s * 1000000000) = s * 1000000000 := by unfold wrap64; omega
  clear htab hs
  go_enter Tryz.func4, Tryz.ntmps4
  go_upto_region 2 with fail
  rw [← hm]
  clear hm
  go_wp2_with (first | (go_at_call 15; refine HSe.out.mono ?_; rintro e w1 ⟨rfl, rfl⟩) | (go_at_call 14; refine HAw.out.mono ?_; rintro e w2 ⟨rfl, hk2⟩))
  go_ret
  exact ⟨rfl, hk2⟩
theorem sameSeconds_law (v0 : Value) (w : World) (r0 : Arg w 3 v0) (htab : Pow10 w) : Calls Tryz.prog 4 #[v0] w fun e w' => e = .returned (.bool true) ∧ Below w.heap.size w w' := by
  obtain ⟨n, rfl, hn⟩ := r0.int rfl
  refine (sameSeconds_core n w (i64_bd hn) htab).mono ?_
  rintro e w' ⟨rfl, hk⟩
  exact ⟨rfl, hk.belowNo (Below.refl _ _)⟩
end Go.Proofs.YtjjgadanobeamaaGreatDoor
