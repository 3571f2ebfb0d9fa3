/-
  bits.Rev: the lowest bits turned round.
-/
import Derived.Test.YtokdlmpnokmniaaRows
import Derived.Test.YtokdlmpnokmniaaBase
import Derived.Test.YtokdlmpnokmniaaRevN
namespace Go.Proofs.Ytokdlmpnokmniaa
open Go.RowKit
set_option linter.unusedVariables false

theorem or16_eq (a : Nat) (ha : a < 4294967296) : bits .or .u32 ((a : Int) / 65536) ((a : Int) * 65536 % 4294967296) = ((a / 65536 ||| a * 65536 % 4294967296 : Nat) : Int) := by
  have h1 : ((a : Int) / 65536) = ((a / 65536 : Nat) : Int) := (Int.natCast_ediv a 65536).symm
  have h3 : ((a : Int) * 65536 % 4294967296) = ((a * 65536 % 4294967296 : Nat) : Int) := by rw [Int.natCast_emod, Int.natCast_mul]; rfl
  rw [h1, h3, u32_or_nat _ _ (Nat.lt_of_le_of_lt (Nat.div_le_self _ _) ha) (Nat.mod_lt _ (by decide))]

set_option maxHeartbeats 1000000 in
theorem rb32 (v : Nat) (w : World) (hv : v < 4294967296) : Calls Try.prog 49 #[.int .u32 v] w fun e w' => e = .returned (.int .u32 (sw 8 16711935 v / 65536 ||| sw 8 16711935 v * 65536 % 4294967296 : Nat)) ∧ w = w' := by
  have e1 : bits .or .u32 (bits .and .u32 ((v : Int) / 256) 16711935) (bits .and .u32 (v : Int) 16711935 * 256 % 4294967296) = ((sw 8 16711935 v : Nat) : Int) := sw_eq 8 16711935 v hv (by decide)
  have e2 := or16_eq (sw 8 16711935 v) (sw_lt _ _ _ (by decide))
  go_enter Try.func49, Try.ntmps49
  go_wp2
  go_ret
  exact ⟨rfl, rfl⟩

set_option maxHeartbeats 1000000 in
theorem r32 (v : Nat) (w : World) (hv : v < 4294967296) : Calls Try.prog 46 #[.int .u32 v] w fun e w' => e = .returned (.int .u32 (net v : Nat)) ∧ w = w' := by
  have e1 : bits .or .u32 (bits .and .u32 ((v : Int) / 2) 1431655765) (bits .and .u32 (v : Int) 1431655765 * 2 % 4294967296) = ((sw 1 1431655765 v : Nat) : Int) := sw_eq 1 1431655765 v hv (by decide)
  have e2 : bits .or .u32 (bits .and .u32 ((sw 1 1431655765 v : Nat) / 4 : Int) 858993459) (bits .and .u32 ((sw 1 1431655765 v : Nat) : Int) 858993459 * 4 % 4294967296) = ((sw 2 858993459 (sw 1 1431655765 v) : Nat) : Int) :=
    sw_eq 2 858993459 _ (sw_lt _ _ _ (by decide)) (by decide)
  have e4 : bits .or .u32 (bits .and .u32 ((sw 2 858993459 (sw 1 1431655765 v) : Nat) / 16 : Int) 252645135) (bits .and .u32 ((sw 2 858993459 (sw 1 1431655765 v) : Nat) : Int) 252645135 * 16 % 4294967296) =
      ((sw 4 252645135 (sw 2 858993459 (sw 1 1431655765 v)) : Nat) : Int) :=
    sw_eq 4 252645135 _ (sw_lt _ _ _ (by decide)) (by decide)
  go_enter Try.func46, Try.ntmps46
  go_wp2_with (go_at_call 49; refine (rb32 _ _ (sw_lt _ _ _ (by decide))).mono ?_; rintro e w' ⟨rfl, rfl⟩)
  go_ret
  exact ⟨rfl, rfl⟩

theorem net_div (v n : Nat) (hn : n ≤ 32) : ((net v : Nat) : Int) / 2 ^ (32 - n) = ((revN n v : Nat) : Int) := by
  rw [← net_rev v n hn]; push_cast; rfl

set_option maxHeartbeats 1000000 in
theorem rev_any (v n : Nat) (w : World) (hv : v < 4294967296) (hn : n ≤ 32) (h1 : 1 ≤ n) : Calls Try.prog 41 #[.int .u32 v, .int .i64 n] w fun e w' => e = .returned (.int .u32 (revN n v : Nat)) ∧ w = w' := by
  go_enter Try.func41, Try.ntmps41
  go_wp2_with (go_at_call 46; refine (r32 _ _ hv).mono ?_; rintro e w' ⟨rfl, rfl⟩)
  go_ret
  refine ⟨?_, rfl⟩
  rw [← net_div v n hn]
  rfl
set_option maxHeartbeats 1000000 in
theorem rev_no (v n : Int) (w : World) (h1 : n < 1 ∨ 32 < n) : Calls Try.prog 41 #[.int .u32 v, .int .i64 n] w fun e w' => e = .returned (.int .u32 0) ∧ w = w' := by
  rcases h1 with h1 | h1
  all_goals
    go_enter Try.func41, Try.ntmps41
    go_wp2
    go_ret
    exact ⟨rfl, rfl⟩
end Go.Proofs.Ytokdlmpnokmniaa
