/-
  'n & (1 << k - 1)' on an int; slices that came in.
-/
import Derived.Test.YtffoigacpnlkgaaClone
namespace Go.Proofs.Ytffoigacpnlkgaa
open Go.RowKit
set_option linter.unusedVariables false

theorem i64_mask (n : Int) (k : Nat) (hk : k ≤ 62) : bits .and .i64 n ((2 ^ k - 1 : Nat) : Int) = n % ((2 ^ k : Nat) : Int) := by
  have h1 : 1 ≤ 2 ^ k := Nat.one_le_two_pow
  have h2 : 2 ^ k ≤ 2 ^ 62 := pow_le_pow2 hk
  have ha : (BitVec.ofInt 64 ((2 ^ k - 1 : Nat) : Int)).toNat = 2 ^ k - 1 := by
    rw [BitVec.ofInt_natCast, BitVec.toNat_ofNat]; exact Nat.mod_eq_of_lt (by omega)
  show IntKind.i64.wrap ((BitVec.ofInt 64 n &&& BitVec.ofInt 64 ((2 ^ k - 1 : Nat) : Int)).toNat : Int) = _
  rw [BitVec.toNat_and, ha, Nat.and_two_pow_sub_one_eq_mod]
  have hm : (((BitVec.ofInt 64 n).toNat : Nat) : Int) = n % 18446744073709551616 := by
    rw [BitVec.toNat_ofInt]
    omega
  have hlt : (BitVec.ofInt 64 n).toNat % 2 ^ k < 2 ^ k := Nat.mod_lt _ (by omega)
  rw [IntWalk.i64_in _ (by omega), Int.natCast_emod, hm]
  exact Int.emod_emod_of_dvd n (Int.ofNat_dvd.2 (show 2 ^ k ∣ 2 ^ 64 from Nat.pow_dvd_pow 2 (by omega)))

theorem mask63 (n : Int) : bits .and .i64 n 63 = n % 64 := i64_mask n 6 (by decide)
theorem mask255 (n : Int) : bits .and .i64 n 255 = n % 256 := i64_mask n 8 (by decide)
theorem mask7 (n : Int) : bits .and .i64 n 7 = n % 8 := i64_mask n 3 (by decide)
theorem mask65535 (n : Int) : bits .and .i64 n 65535 = n % 65536 := i64_mask n 16 (by decide)

/-- What the shell of a law tells of a slice of bytes that came in, in my words. -/
theorem row_reads {w : World} {a : Option Addr} {len cap : Nat} {zs : List Int}
    (h : (a = none ∧ len = 0 ∧ cap = 0 ∧ zs = []) ∨
      ∃ x, a = some x ∧ len ≤ cap ∧ cap ≤ maxLen ∧ zs.length = cap ∧ (∀ i, i < zs.length → w.cell? (x.add i) = some (.int .u8 (zs.getD i 0))) ∧ ∀ n ∈ zs, (Lit.int .u8 n).wf = true) :
    ∃ bs, bs.length = len ∧ Reads w a bs ∧ AllB bs ∧ len ≤ cap ∧ cap ≤ maxLen := by
  rcases h with ⟨rfl, rfl, rfl, rfl⟩ | ⟨x, rfl, hl, hm, hz, hc, hw⟩
  · exact ⟨[], rfl, ⟨fun _ => rfl, (fun a h => by cases h)⟩, (by intro b hb; cases hb), Nat.le_refl _, Nat.zero_le _⟩
  · refine ⟨zs.take len, by rw [List.length_take]; omega, ⟨(fun h => by cases h), ?_⟩, ?_, hl, hm⟩
    · intro a ha i hi
      cases ha
      have hi2 : i < len := by rw [List.length_take] at hi; omega
      rw [hc i (by omega)]
      simp [List.getD, hi2]
    · intro b hb
      have := hw b (List.mem_of_mem_take hb)
      simp [Lit.wf, IntKind.min, IntKind.max, IntKind.signed, IntKind.bits] at this
      omega
theorem i64_bd {n : Int} (h : (Lit.int .i64 n).wf = true) : -9223372036854775808 ≤ n ∧ n ≤ 9223372036854775807 := by
  simpa [Lit.wf, IntKind.min, IntKind.max, IntKind.signed, IntKind.bits] using h
theorem u32_bd {n : Int} (h : (Lit.int .u32 n).wf = true) : 0 ≤ n ∧ n ≤ 4294967295 := by
  simpa [Lit.wf, IntKind.min, IntKind.max, IntKind.signed, IntKind.bits] using h
theorem u8_bd {n : Int} (h : (Lit.int .u8 n).wf = true) : 0 ≤ n ∧ n ≤ 255 := by
  simpa [Lit.wf, IntKind.min, IntKind.max, IntKind.signed, IntKind.bits] using h
end Go.Proofs.Ytffoigacpnlkgaa
