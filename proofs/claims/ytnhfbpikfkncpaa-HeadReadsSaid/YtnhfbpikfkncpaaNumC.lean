/-
  num: Field, readWide.
-/
import Derived.Test.YtnhfbpikfkncpaaNumB
namespace Go.Proofs.Ytnhfbpikfkncpaa
open Go.RowKit
set_option linter.unusedVariables false
set_option linter.unusedSimpArgs false

def fieldS (n wd : Int) (b : Bool) : List Int × Bool := if (octS n wd).2 = true ∨ b = false then octS n wd else wideS n wd
theorem octS_no (n wd : Int) (h : (octS n wd).2 = false) : octS n wd = ([], false) := by
  unfold octS at h ⊢; split at h
  · cases h
  · rename_i hn; rw [if_neg hn]
set_option maxHeartbeats 1000000 in
theorem field_any (n wd : Int) (b : Bool) (w : World) (hn : -9223372036854775808 ≤ n ∧ n ≤ 9223372036854775807) : Calls Try.prog 36 #[.int .i64 n, .int .i64 wd, .bool b] w (ToldB (fieldS n wd b) w) := by
  have HO := Lib.hid (octal_any n wd w hn)
  have HW := Lib.hid (fun w => wide_any n wd w hn)
  have hsp : ∀ q : Bool, q = (octS n wd).2 → fieldS n wd b = if q = true ∨ b = false then octS n wd else wideS n wd := fun q h => by subst h; rfl
  have HSp := Lib.hid hsp
  clear hsp
  obtain ⟨o, ho⟩ : ∃ o, o = octS n wd := ⟨_, rfl⟩
  rw [← ho] at HO HSp
  obtain ⟨xs, q⟩ := o
  have hf := HSp.out q rfl
  have HF := Lib.hid hf
  clear hf HSp ho hn
  go_enter Try.func36, Try.ntmps36
  go_wp2_with fail
  refine HO.out.mono ?_
  rintro e w1 ⟨ao, cap, rfl, HR, H0, hlc, hcm, hk⟩
  simp only at HR hlc
  have HK := Lib.hid hk
  clear hk
  cases q with
  | true =>
    have hf := HF.out
    rw [if_pos (.inl rfl)] at hf
    have HF2 := Lib.hid hf
    clear hf HF
    go_wp2
    go_ret2
    rw [HF2.out]
    exact ⟨ao, cap, rfl, HR, H0, hlc, hcm, HK.out⟩
  | false =>
    cases b with
    | false =>
      have hf := HF.out
      rw [if_pos (.inr rfl)] at hf
      have HF2 := Lib.hid hf
      clear hf HF
      go_wp2
      go_ret2
      rw [HF2.out]
      exact ⟨ao, cap, rfl, HR, H0, hlc, hcm, HK.out⟩
    | true =>
      have hf := HF.out
      rw [if_neg (by simp)] at hf
      have HF2 := Lib.hid hf
      clear hf HF
      go_wp2_with fail
      refine (HW.out _).mono ?_
      rintro e w2 ⟨ao2, cap2, rfl, HR2, H02, hlc2, hcm2, hk2⟩
      go_wp2
      go_ret2
      rw [HF2.out]
      exact ⟨ao2, cap2, rfl, HR2, H02, hlc2, hcm2, HK.out.trans hk2⟩
end Go.Proofs.Ytnhfbpikfkncpaa
