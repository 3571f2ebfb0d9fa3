/-
  SymLen, SymDist, and what finds a symbol.
-/
import Derived.Test.YtkhkcmekjjihkaaLzN
import Derived.Test.YtkhkcmekjjihkaaKit
namespace Go.Proofs.Ytkhkcmekjjihkaa
open Go.RowKit
set_option linter.unusedVariables false
set_option linter.unusedSimpArgs false

set_option maxHeartbeats 1000000 in
theorem group4_any (i : Nat) (w : World) (hi : i ≤ 29) : Calls Try.prog 21 #[.int .i64 i, .int .i64 4] w fun e w' => e = .returned (.tuple #[.int .i64 (gb 4 i : Nat), .int .i64 (ge 4 i : Nat)]) ∧ w = w' := by
  obtain ⟨k, hk⟩ : ∃ k, k = i / 4 := ⟨_, rfl⟩
  have hdiv : (i : Int) / 4 = k := by omega
  have hk14 : k ≤ 14 := by omega
  have HB : Hid (gb 4 i = if k - 1 = 0 then i else (4 + i % 4) * 2 ^ (k - 1)) := by unfold gb; rw [← hk]; exact rfl
  have HE : Hid (ge 4 i = k - 1) := by unfold ge; rw [← hk]; exact rfl
  obtain ⟨m, hm⟩ : ∃ m, m = i % 4 := ⟨_, rfl⟩
  have hmod : (i : Int) % 4 = m := by omega
  have hm4 : m < 4 := by omega
  rw [← hm] at HB
  clear hk hm
  rw [HB.out, HE.out]
  clear HB HE
  go_enter Try.func21, Try.ntmps21
  by_cases h0 : k ≤ 1
  · have h1 : k - 1 = 0 := by omega
    rw [if_pos h1, h1]
    have hmax : (if (k : Int) - 1 < 0 then (0 : Int) else (k : Int) - 1) = 0 := by split <;> omega
    clear h1
    go_wp2
    go_ret2
    exact ⟨rfl, rfl⟩
  · have h1 : ¬ k - 1 = 0 := by omega
    rw [if_neg h1]
    obtain ⟨e, he⟩ : ∃ e, e = k - 1 := ⟨_, rfl⟩
    rw [← he]
    have hke : (k : Int) - 1 = e := by omega
    have hn : ¬ (e : Int) < 0 := by omega
    have he0 : ((e : Int) == 0) = false := by simp; omega
    have he13 : e ≤ 13 := by omega
    have hp : 2 ^ e ≤ 2 ^ 13 := Nat.pow_le_pow_right (by decide) he13
    have hmul : ((4 : Int) + m) * 2 ^ e = (((4 + m) * 2 ^ e : Nat) : Int) := by push_cast; rfl
    have hmb : (4 + m) * 2 ^ e ≤ 8 * 8192 := Nat.mul_le_mul (by omega) hp
    generalize (4 + m) * 2 ^ e = v at hmul hmb ⊢
    clear hp he h1 h0
    go_wp2
    go_ret2
    exact ⟨rfl, rfl⟩

set_option maxHeartbeats 1000000 in
theorem group2_any (i : Nat) (w : World) (hi : i ≤ 29) : Calls Try.prog 21 #[.int .i64 i, .int .i64 2] w fun e w' => e = .returned (.tuple #[.int .i64 (gb 2 i : Nat), .int .i64 (ge 2 i : Nat)]) ∧ w = w' := by
  obtain ⟨k, hk⟩ : ∃ k, k = i / 2 := ⟨_, rfl⟩
  have hdiv : (i : Int) / 2 = k := by omega
  have hk14 : k ≤ 14 := by omega
  have HB : Hid (gb 2 i = if k - 1 = 0 then i else (2 + i % 2) * 2 ^ (k - 1)) := by unfold gb; rw [← hk]; exact rfl
  have HE : Hid (ge 2 i = k - 1) := by unfold ge; rw [← hk]; exact rfl
  obtain ⟨m, hm⟩ : ∃ m, m = i % 2 := ⟨_, rfl⟩
  have hmod : (i : Int) % 2 = m := by omega
  have hm4 : m < 2 := by omega
  rw [← hm] at HB
  clear hk hm
  rw [HB.out, HE.out]
  clear HB HE
  go_enter Try.func21, Try.ntmps21
  by_cases h0 : k ≤ 1
  · have h1 : k - 1 = 0 := by omega
    rw [if_pos h1, h1]
    have hmax : (if (k : Int) - 1 < 0 then (0 : Int) else (k : Int) - 1) = 0 := by split <;> omega
    clear h1
    go_wp2
    go_ret2
    exact ⟨rfl, rfl⟩
  · have h1 : ¬ k - 1 = 0 := by omega
    rw [if_neg h1]
    obtain ⟨e, he⟩ : ∃ e, e = k - 1 := ⟨_, rfl⟩
    rw [← he]
    have hke : (k : Int) - 1 = e := by omega
    have hn : ¬ (e : Int) < 0 := by omega
    have he0 : ((e : Int) == 0) = false := by simp; omega
    have he13 : e ≤ 13 := by omega
    have hp : 2 ^ e ≤ 2 ^ 13 := Nat.pow_le_pow_right (by decide) he13
    have hmul : ((2 : Int) + m) * 2 ^ e = (((2 + m) * 2 ^ e : Nat) : Int) := by push_cast; rfl
    have hmb : (2 + m) * 2 ^ e ≤ 8 * 8192 := Nat.mul_le_mul (by omega) hp
    generalize (2 + m) * 2 ^ e = v at hmul hmb ⊢
    clear hp he h1 h0
    go_wp2
    go_ret2
    exact ⟨rfl, rfl⟩
end Go.Proofs.Ytkhkcmekjjihkaa
