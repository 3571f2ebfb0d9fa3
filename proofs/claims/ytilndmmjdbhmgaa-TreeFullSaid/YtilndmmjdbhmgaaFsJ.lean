/-
  What was written of a file, in memory: how many bytes; how many more fit.
-/
import Derived.Test.YtilndmmjdbhmgaaFsI
namespace Go.Proofs.Ytilndmmjdbhmgaa
open Go.RowKit
set_option linter.unusedVariables false
set_option linter.unusedSimpArgs false
set_option maxRecDepth 20000

theorem sizeD_take (l : List Fp) (i : Nat) (h : i < l.length) : sizeD (l.take (i + 1)) = sizeD (l.take i) + l[i].2.length := by
  rw [List.take_succ_eq_append_getElem h, sizeD_append, sizeD_cons]
  simp [sizeD]
theorem sizeD_take_le (l : List Fp) (i : Nat) : sizeD (l.take i) ≤ sizeD l := by
  have : sizeD l = sizeD (l.take i) + sizeD (l.drop i) := by
    rw [← sizeD_append, List.take_append_drop]
  omega
set_option maxHeartbeats 2000000 in
theorem size_any (l : List Fp) (a : Option Addr) (c : Nat) (w : World) (hr : RdD w a l) (hc : l.length ≤ c) (hcm : c ≤ maxLen) (hs : sizeD l ≤ 4611686018427387904) :
    Calls Try.prog 41 #[.slice a l.length c] w fun e w' => e = .returned (.int .i64 (sizeD l : Int)) ∧ Kept NoB w w' := by
  have HSt := Lib.hid (fun i (hi : i < l.length) => sizeD_take l i hi)
  have HLe := Lib.hid (sizeD_take_le l)
  have HR := Lib.hid hr
  have hcm2 : l.length ≤ 9223372036854775807 := by unfold maxLen at hcm; omega
  obtain ⟨T, hT⟩ : ∃ T, T = sizeD l := ⟨_, rfl⟩
  rw [← hT] at hs HLe ⊢
  have HT := Lib.hid hT
  obtain ⟨n, hn⟩ : ∃ n, n = l.length := ⟨_, rfl⟩
  have HN := Lib.hid hn
  rw [← hn] at hc hcm2 ⊢
  clear hT hn hr hcm
  go_enter Try.func41, Try.ntmps41
  go_wp2
  go_loopw [3, 5, 8] (fun v3 v5 v8 wr => ∃ i s : Nat, v3 = .int .i64 (s : Int) ∧ v8 = .int .i64 (i : Int) ∧ i ≤ n ∧ s ≤ T ∧ Hid (s = sizeD (l.take i) ∧ Kept NoB w wr)) (fun _ _ v8 _ => n - (intOf v8).toNat)
  case atStart => exact ⟨0, 0, rfl, rfl, by omega, by omega, Lib.hid ⟨by simp [sizeD], Kept.refl _ _⟩⟩
  case round =>
    obtain ⟨i, s, rfl, rfl, hi, hsT, HS⟩ := hrel
    by_cases hlt : (i : Int) < (n : Int)
    · have hin : i < l.length := by have := HN.out; omega
      obtain ⟨b, off, bo, bc, rfl, c0, c1, q1, q2⟩ := HR.out i hin
      have d0 := HS.out.2.cell c0
      have d1 := HS.out.2.cell c1
      have e1 := HSt.out i hin
      have e2 := HLe.out (i + 1)
      rw [show off + (i * 2 + 1) = off + i * 2 + 1 by omega] at d1
      rw [← HS.out.1] at e1
      obtain ⟨z, hz⟩ : ∃ z, z = l[i].1 := ⟨_, rfl⟩
      obtain ⟨k, hk⟩ : ∃ k, k = l[i].2.length := ⟨_, rfl⟩
      rw [← hz] at d0
      rw [← hk] at d1 e1 q1
      rw [e1] at e2
      have HK1 := Lib.hid (HS.out.2.alloc (.cells #[.int .i64 z, .slice bo k bc] 61))
      have E1 := Lib.hid e1
      clear c0 c1 e1 hz hk
      go_wp2
      go_roundw
      case rel => exact ⟨i + 1, s + k, by go_num, by go_num, by omega, by omega, Lib.hid ⟨E1.out.symm, HK1.out⟩⟩
      case measure => simp [intOf]; omega
    · have hie : i = n := by omega
      have HF : Hid (s = T) := Lib.hid (by
        have h := HS.out.1
        rw [hie, HN.out, List.take_length, ← HT.out] at h
        exact h)
      clear hie
      go_wp2
      go_ret
      exact ⟨by rw [HF.out]; rfl, HS.out.2⟩
end Go.Proofs.Ytilndmmjdbhmgaa
