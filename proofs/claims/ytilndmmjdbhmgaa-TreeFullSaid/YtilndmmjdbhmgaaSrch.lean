/-
  sort.Search: the first place at which a predicate that stays true is true.
-/
import Derived.Test.YtilndmmjdbhmgaaKit
namespace Go.Proofs.Ytilndmmjdbhmgaa
open Go.RowKit
set_option linter.unusedVariables false
set_option linter.unusedSimpArgs false
set_option maxRecDepth 20000

set_option maxHeartbeats 2000000 in
theorem search_after (n : Nat) (cb : Array Value) (p : Nat → Bool) (w : World) (hn : n ≤ 1099511627776) (hmono : ∀ a b, a ≤ b → b < n → p a = true → p b = true)
    (hf : ∀ W i, Kept NoB w W → i < n → Calls Try.prog 90 (#[.int .i64 (i : Int)] ++ cb) W fun e w' => e = .returned (.bool (p i)) ∧ Kept NoB W w') :
    Calls Try.prog 79 #[.int .i64 (n : Int), .func (.func 90) #[] cb] w fun e w' => ∃ i : Nat, e = .returned (.int .i64 (i : Int)) ∧ i ≤ n ∧ (∀ k, k < i → p k = false) ∧ (∀ k, i ≤ k → k < n → p k = true) ∧ Kept NoB w w' := by
  have HF := Lib.hid hf; have HM := Lib.hid hmono
  clear hf hmono
  go_enter Try.func79, Try.ntmps79
  go_wp2
  go_loopw [5, 6, 7, 11] (fun v5 v6 _v7 _v11 wr => ∃ i j : Nat, v5 = .int .i64 (i : Int) ∧ v6 = .int .i64 (j : Int) ∧ i ≤ j ∧ j ≤ n ∧ Hid ((∀ k, k < i → p k = false) ∧ (∀ k, j ≤ k → k < n → p k = true) ∧ Kept NoB w wr)) (fun v5 v6 _ _ _ => (intOf v6).toNat - (intOf v5).toNat)
  case atStart => exact ⟨0, n, rfl, rfl, by omega, by omega, Lib.hid ⟨fun k hk => by omega, fun k h1 h2 => by omega, Kept.refl _ _⟩⟩
  case round =>
    obtain ⟨i, j, rfl, rfl, hij, hjn, HS⟩ := hrel
    by_cases hlt : (i : Int) < (j : Int)
    · obtain ⟨h, hh⟩ : ∃ h : Nat, h = (i + j) / 2 := ⟨_, rfl⟩
      have hh1 : i ≤ h := by omega
      have hh2 : h < j := by omega
      have hh3 : ((i : Int) + (j : Int)) / 2 = (h : Int) := by omega
      have HH := Lib.hid hh3
      clear hh hh3
      go_upto_region 4 with fail
      rw [HH.out]
      have HC := Lib.hid (HF.out wr h HS.out.2.2 (by omega))
      obtain ⟨q, hq⟩ : ∃ q, q = p h := ⟨_, rfl⟩
      rw [← hq] at HC
      have HQ := Lib.hid hq
      clear hq
      cases q
      · go_wp2_with (go_at_call 90; fail)
        refine HC.out.mono ?_
        rintro e w2 ⟨rfl, hk2⟩
        have HK := Lib.hid (HS.out.2.2.trans hk2)
        clear hk2
        go_wp2
        go_roundw
        case rel => exact ⟨h + 1, j, by go_num, rfl, by omega, hjn, Lib.hid ⟨(fun k hk => by
          cases e : p k with
          | false => rfl
          | true =>
            have := HM.out k h (by omega) (by omega) e
            rw [← HQ.out] at this
            cases this), HS.out.2.1, HK.out⟩⟩
        case measure => simp [intOf]; omega
      · go_wp2_with (go_at_call 90; fail)
        refine HC.out.mono ?_
        rintro e w2 ⟨rfl, hk2⟩
        have HK := Lib.hid (HS.out.2.2.trans hk2)
        clear hk2
        go_wp2
        go_roundw
        case rel => exact ⟨i, h, rfl, by go_num, hh1, by omega, Lib.hid ⟨HS.out.1, fun k h1 h2 => HM.out h k h1 h2 HQ.out.symm, HK.out⟩⟩
        case measure => simp [intOf]; omega
    · have hij2 : j = i := by omega
      go_wp2
      go_ret
      exact ⟨i, rfl, by omega, HS.out.1, fun k h1 h2 => HS.out.2.1 k (by omega) h2, HS.out.2.2⟩
set_option maxHeartbeats 2000000 in
theorem search_put (n : Nat) (cb : Array Value) (p : Nat → Bool) (w : World) (hn : n ≤ 1099511627776) (hmono : ∀ a b, a ≤ b → b < n → p a = true → p b = true)
    (hf : ∀ W i, Kept NoB w W → i < n → Calls Try.prog 80 (#[.int .i64 (i : Int)] ++ cb) W fun e w' => e = .returned (.bool (p i)) ∧ Kept NoB W w') :
    Calls Try.prog 79 #[.int .i64 (n : Int), .func (.func 80) #[] cb] w fun e w' => ∃ i : Nat, e = .returned (.int .i64 (i : Int)) ∧ i ≤ n ∧ (∀ k, k < i → p k = false) ∧ (∀ k, i ≤ k → k < n → p k = true) ∧ Kept NoB w w' := by
  have HF := Lib.hid hf; have HM := Lib.hid hmono
  clear hf hmono
  go_enter Try.func79, Try.ntmps79
  go_wp2
  go_loopw [5, 6, 7, 11] (fun v5 v6 _v7 _v11 wr => ∃ i j : Nat, v5 = .int .i64 (i : Int) ∧ v6 = .int .i64 (j : Int) ∧ i ≤ j ∧ j ≤ n ∧ Hid ((∀ k, k < i → p k = false) ∧ (∀ k, j ≤ k → k < n → p k = true) ∧ Kept NoB w wr)) (fun v5 v6 _ _ _ => (intOf v6).toNat - (intOf v5).toNat)
  case atStart => exact ⟨0, n, rfl, rfl, by omega, by omega, Lib.hid ⟨fun k hk => by omega, fun k h1 h2 => by omega, Kept.refl _ _⟩⟩
  case round =>
    obtain ⟨i, j, rfl, rfl, hij, hjn, HS⟩ := hrel
    by_cases hlt : (i : Int) < (j : Int)
    · obtain ⟨h, hh⟩ : ∃ h : Nat, h = (i + j) / 2 := ⟨_, rfl⟩
      have hh1 : i ≤ h := by omega
      have hh2 : h < j := by omega
      have hh3 : ((i : Int) + (j : Int)) / 2 = (h : Int) := by omega
      have HH := Lib.hid hh3
      clear hh hh3
      go_upto_region 4 with fail
      rw [HH.out]
      have HC := Lib.hid (HF.out wr h HS.out.2.2 (by omega))
      obtain ⟨q, hq⟩ : ∃ q, q = p h := ⟨_, rfl⟩
      rw [← hq] at HC
      have HQ := Lib.hid hq
      clear hq
      cases q
      · go_wp2_with (go_at_call 80; fail)
        refine HC.out.mono ?_
        rintro e w2 ⟨rfl, hk2⟩
        have HK := Lib.hid (HS.out.2.2.trans hk2)
        clear hk2
        go_wp2
        go_roundw
        case rel => exact ⟨h + 1, j, by go_num, rfl, by omega, hjn, Lib.hid ⟨(fun k hk => by
          cases e : p k with
          | false => rfl
          | true =>
            have := HM.out k h (by omega) (by omega) e
            rw [← HQ.out] at this
            cases this), HS.out.2.1, HK.out⟩⟩
        case measure => simp [intOf]; omega
      · go_wp2_with (go_at_call 80; fail)
        refine HC.out.mono ?_
        rintro e w2 ⟨rfl, hk2⟩
        have HK := Lib.hid (HS.out.2.2.trans hk2)
        clear hk2
        go_wp2
        go_roundw
        case rel => exact ⟨i, h, rfl, by go_num, hh1, by omega, Lib.hid ⟨HS.out.1, fun k h1 h2 => HM.out h k h1 h2 HQ.out.symm, HK.out⟩⟩
        case measure => simp [intOf]; omega
    · have hij2 : j = i := by omega
      go_wp2
      go_ret
      exact ⟨i, rfl, by omega, HS.out.1, fun k h1 h2 => HS.out.2.1 k (by omega) h2, HS.out.2.2⟩
end Go.Proofs.Ytilndmmjdbhmgaa
