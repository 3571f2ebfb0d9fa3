/-
  The document's own Digits of a number.
-/
import Derived.Test.YtilndmmjdbhmgaaDecN
import Derived.Test.YtilndmmjdbhmgaaKit
namespace Go.Proofs.Ytilndmmjdbhmgaa
open Go.RowKit Go.Lib
set_option linter.unusedVariables false
set_option linter.unusedSimpArgs false

theorem dec_lit (k : Nat) (hk : k < 10) : (⟨#[48, 49, 50, 51, 52, 53, 54, 55, 56, 57]⟩ : ByteArray).extract k (k + 1) = ⟨([UInt8.ofNat (48 + k)]).toArray⟩ := by
  have hc : k = 0 ∨ k = 1 ∨ k = 2 ∨ k = 3 ∨ k = 4 ∨ k = 5 ∨ k = 6 ∨ k = 7 ∨ k = 8 ∨ k = 9 := by omega
  rcases hc with rfl | rfl | rfl | rfl | rfl | rfl | rfl | rfl | rfl | rfl <;> decide +kernel
theorem itoa_parts (n : Int) (h0 : -9223372036854775808 ≤ n) (h1 : n ≤ 9223372036854775807) :
    (n < 0 ∧ ∃ U : Nat, n = -(U : Int) ∧ 1 ≤ U ∧ U ≤ 9223372036854775808 ∧ itoa n = [45] ++ decDigits U) ∨ (¬ n < 0 ∧ ∃ U : Nat, n = (U : Int) ∧ U ≤ 9223372036854775807 ∧ itoa n = [] ++ decDigits U) := by
  by_cases h : n < 0
  · refine .inl ⟨h, n.natAbs, by omega, by omega, by omega, ?_⟩
    conv => lhs; rw [show n = -((n.natAbs : Nat) : Int) by omega]
    exact itoa_neg _ (by omega)
  · refine .inr ⟨h, n.toNat, by omega, by omega, ?_⟩
    conv => lhs; rw [show n = ((n.toNat : Nat) : Int) by omega]
    exact itoa_nonneg _

set_option maxRecDepth 20000 in
set_option maxHeartbeats 2000000 in
theorem rDigits_any (n : Int) (w : World) (h0 : -9223372036854775808 ≤ n) (h1 : n ≤ 9223372036854775807) :
    Calls Try.prog 15 #[.int .i64 n] w fun e w' => e = .returned (.string ⟨(itoa n).toArray⟩) ∧ w = w' := by
  have hcat : ∀ (a b : List UInt8), (⟨a.toArray⟩ : ByteArray) ++ ⟨b.toArray⟩ = ⟨(a ++ b).toArray⟩ := ByteArray.mk_append_mk
  have Cat := Lib.hid hcat
  clear hcat
  have hstep : ∀ (sg : List UInt8) (U u : Nat) (l : List UInt8), decDigits U = decDigits u ++ l → ¬ u < 10 → decDigits U = decDigits (u / 10) ++ (UInt8.ofNat (48 + u % 10) :: l) := by
    intro sg U u l h hu
    rw [h, decDigits_ge hu, List.append_assoc]; rfl
  have HStep := Lib.hid hstep
  clear hstep
  obtain ⟨R, hR⟩ : ∃ R, R = (⟨(itoa n).toArray⟩ : ByteArray) := ⟨_, rfl⟩
  rw [← hR]
  have hmain2 : ∀ (U u : Nat) (l : List UInt8), U ≤ 9223372036854775808 → decDigits U = decDigits u ++ l → l.length ≤ 25 := by
    intro U u l hU h
    have h2 := decDigits_len 19 U (by decide) (by omega)
    rw [h, List.length_append] at h2
    omega
  have Main := Lib.hid hmain2
  clear hmain2
  rcases itoa_parts n h0 h1 with ⟨hneg, U, rfl, hU1, hU2, hit⟩ | ⟨hneg, U, rfl, hU2, hit⟩
  all_goals
    rw [hit, ← Cat.out] at hR
    have HIt := Lib.hid hR
    clear hit h0 h1 hR
    first
      | have hw1 : IntKind.u64.wrap (-(U : Int)) = 18446744073709551616 - (U : Int) := by rw [IntKind.wrap_u64]; omega
      | have hw1 : IntKind.u64.wrap (U : Int) = (U : Int) := by rw [IntKind.wrap_u64]; omega
    have hw2 : IntKind.u64.wrap (-(18446744073709551616 - (U : Int))) = (U : Int) := by rw [IntKind.wrap_u64]; omega
    go_enter Try.func15, Try.ntmps15
    go_wp2
    go_loopw [3, 4, 6] (fun v3 v4 v6 wr => ∃ (u : Nat) (l : List UInt8), v3 = .int .u64 (u : Int) ∧ v4 = .string ⟨l.toArray⟩ ∧ Hid (decDigits U = decDigits u ++ l) ∧ u ≤ U ∧ w = wr) (fun v3 _ _ _ => (RowKit.intOf v3).toNat)
    case atStart => exact ⟨U, [], rfl, rfl, by rw [List.append_nil]; rfl, Nat.le_refl _, rfl⟩
    case round =>
      obtain ⟨u, l, rfl, rfl, HE, huU, rfl⟩ := hrel
      have hll := Main.out U u l (by omega) HE.out
      have hzl : (⟨l.toArray⟩ : ByteArray).size ≤ 25 := hll
      by_cases h9 : 9 < u
      · have hk10 : u % 10 < 10 := by omega
        have hlit := dec_lit (u % 10) hk10
        have hcat := Cat.out [UInt8.ofNat (48 + u % 10)] l
        have hz1 : (⟨([UInt8.ofNat (48 + u % 10)]).toArray⟩ : ByteArray).size = 1 := rfl
        have HS := Lib.hid (HStep.out [] U u l HE.out (by omega))
        obtain ⟨k, hk⟩ : ∃ k, k = u % 10 := ⟨_, rfl⟩
        rw [← hk] at hlit hcat hz1 hk10 HS
        have hrem : (u : Int) % 10 = (k : Int) := by omega
        obtain ⟨u2, hu2⟩ : ∃ u2, u2 = u / 10 := ⟨_, rfl⟩
        have hdiv : (u : Int) / 10 = (u2 : Int) := by omega
        rw [← hu2] at HS
        have hu3 : u2 < u := by omega
        have hgt : (9 : Int) < (u : Int) := by omega
        have HCat := Lib.hid hcat
        clear hk hcat hu2
        generalize (⟨([UInt8.ofNat (48 + k)]).toArray⟩ : ByteArray) = t1 at hlit hz1 HCat
        have HL := Lib.hid hll
        generalize hst : (⟨l.toArray⟩ : ByteArray) = st at hzl HCat ⊢
        clear hst
        go_wp2
        go_roundw
        case rel => exact ⟨u2, UInt8.ofNat (48 + k) :: l, by first | rfl | go_num, by rw [HCat.out]; rfl, HS.out, by omega, trivial⟩
        case measure => simp [RowKit.intOf]; omega
      · have hu10 : u < 10 := by omega
        have hlit := dec_lit u hu10
        have hgt : ¬ (9 : Int) < (u : Int) := by omega
        have hz1 : (⟨([UInt8.ofNat (48 + u)]).toArray⟩ : ByteArray).size = 1 := rfl
        have hfin := HIt.out
        rw [HE.out, decDigits_lt hu10, ← Cat.out] at hfin
        have HFin := Lib.hid hfin
        clear hfin
        generalize (⟨([UInt8.ofNat (48 + u)]).toArray⟩ : ByteArray) = t1 at hlit hz1 HFin
        generalize hst : (⟨l.toArray⟩ : ByteArray) = st at hzl HFin ⊢
        clear hst
        have hu64 : (u : Int) ≤ 9 := by omega
        go_wp2
        go_ret
        have hf := HFin.out
        refine ⟨?_, rfl⟩
        rw [hf, ← ByteArray.append_assoc]
        rfl

end Go.Proofs.Ytilndmmjdbhmgaa
