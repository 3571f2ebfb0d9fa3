/-
  LenSym, DistSym: each length, and each distance, has just one symbol and rest.
-/
import Derived.Test.YtkhkcmekjjihkaaLzB
namespace Go.Proofs.Ytkhkcmekjjihkaa
open Go.RowKit
set_option linter.unusedVariables false
set_option linter.unusedSimpArgs false

theorem lenSym_last (w : World) : Calls Try.prog 12 #[.int .i64 258] w fun e w' => e = .returned (.tuple #[.int .i64 285, .int .i64 0, .int .u32 0]) ∧ w = w' := by
  go_enter Try.func12, Try.ntmps12
  go_wp2
  go_ret3
  exact ⟨rfl, rfl⟩
theorem lenSym_any (i v n : Nat) (w : World) (hi : i < 28) (hv : v < 2 ^ le4 i) (hn : n = lb i + v) (hn2 : n ≤ 257) :
    Calls Try.prog 12 #[.int .i64 n] w fun e w' => e = .returned (.tuple #[.int .i64 (257 + i : Nat), .int .i64 (le4 i : Nat), .int .u32 v]) ∧ w = w' := by
  have hn3 : 3 ≤ n := by have := (lb_top i hi).2.2.1; omega
  have h1 : ¬ (n : Int) < 3 := by omega
  have h2 : ¬ (258 : Int) < n := by omega
  have h3 : ((n : Int) == 258) = false := by simp; omega
  have HG : Hid (∀ w, Calls Try.prog 22 #[.int .i64 n, .int .i64 257, .int .i64 284, .func (.func 11) #[] #[]] w fun e w' => e = .returned (.tuple #[.int .i64 (257 + i : Nat), .int .i64 (le4 i : Nat), .int .u32 v]) ∧ w = w') := fun w => by
    refine (lastLen_any n w hn3 hn2).mono ?_
    rintro e w' ⟨l, hl, hb1, hb2, rfl, rfl⟩
    have := lb_only i l v hi (by omega) hv (by omega) (by intro h; have := hb2 h; omega)
    subst this
    rw [show n - lb l = v from by omega]
    exact ⟨rfl, rfl⟩
  clear hn hn3 hv hn2
  go_enter Try.func12, Try.ntmps12
  go_wp2_with fail
  refine (HG.out _).mono ?_
  rintro e w' ⟨rfl, rfl⟩
  go_wp2
  go_ret3
  exact ⟨rfl, rfl⟩
theorem distSym_any (i v n : Nat) (w : World) (hi : i < 30) (hv : v < 2 ^ de i) (hn : n = db i + v) :
    Calls Try.prog 14 #[.int .i64 n] w fun e w' => e = .returned (.tuple #[.int .i64 i, .int .i64 (de i : Nat), .int .u32 v]) ∧ w = w' := by
  have ht := db_top i hi
  have h1 : ¬ (n : Int) < 1 := by omega
  have h2 : ¬ (32768 : Int) < n := by omega
  have HG : Hid (∀ w, Calls Try.prog 22 #[.int .i64 n, .int .i64 0, .int .i64 29, .func (.func 13) #[] #[]] w fun e w' => e = .returned (.tuple #[.int .i64 i, .int .i64 (de i : Nat), .int .u32 v]) ∧ w = w') := fun w => by
    refine (lastDist_any n w (by omega) (by omega)).mono ?_
    rintro e w' ⟨l, hl, hb1, hb2, rfl, rfl⟩
    have := db_only i l v hi (by omega) hv (by omega) (by intro h; have := hb2 h; omega)
    subst this
    rw [show n - db l = v from by omega, Nat.zero_add]
    exact ⟨rfl, rfl⟩
  clear hn ht hv
  go_enter Try.func14, Try.ntmps14
  go_wp2_with fail
  refine (HG.out _).mono ?_
  rintro e w' ⟨rfl, rfl⟩
  go_wp2
  go_ret3
  exact ⟨rfl, rfl⟩
end Go.Proofs.Ytkhkcmekjjihkaa
