/-
  The law InflateFixed.
-/
import Derived.Test.YthapkciebphhkaaMa23
namespace Go.Proofs.Ythapkciebphhkaa
open Go.RowKit
set_option linter.unusedVariables false
set_option linter.unusedSimpArgs false

theorem fixL_all : AllI fixL := by
  intro z hz
  have := fixL_ok.2.1 z hz
  omega
theorem fixD_all : AllI fixD := by
  intro z hz
  have := fixD_ok.2.1 z hz
  omega
theorem kind_fixL : kindA fixL = 3 := by
  have hm : MayL fixL := ⟨fixL_ok.1, fixL_ok.2.1⟩
  unfold kindA
  rw [if_pos hm]
  decide +kernel
theorem kind_fixD : kindA fixD = 3 := by
  have hm : MayL fixD := ⟨fixD_ok.1, fixD_ok.2.1⟩
  unfold kindA
  rw [if_pos hm]
  decide +kernel
set_option maxRecDepth 20000 in
set_option maxHeartbeats 4000000 in
theorem inflateFixed_law (w : World) : Calls Try.prog 4 #[] w fun e w' => e = .returned (.bool true) ∧ Below w.heap.size w w' := by
  have HF := Lib.hid (fixed_any w)
  go_enter Try.func4, Try.ntmps4
  go_wp2_with fail
  refine HF.out.mono ?_
  rintro e w1 ⟨G, H, rfl, hT⟩
  have HT := Lib.hid hT
  clear hT HF
  have HRf := Lib.hid (rfixed_any w1)
  go_wp2_with fail
  refine HRf.out.mono ?_
  rintro e w2 ⟨a, c, b, d, rfl, ha, hb, hk2⟩
  have HA := Lib.hid ha; have HB := Lib.hid hb
  have HL := Lib.hid ((HT.out.A fixL_len).keptNo hk2)
  have HD := Lib.hid ((HT.out.BG fixD_len).kept hk2 (fun _ _ e => e))
  have HK2 := Lib.hid (HT.out.k.trans hk2)
  have hs1 : Calls Try.prog 9 #[.slice (some ⟨G, 0, none⟩) 288 288, .slice a 288 c] w2 fun e w' => e = .returned (.bool true) ∧ Kept NoB w2 w' := by
    have := sameInts_any (some ⟨G, 0, none⟩) 288 fixL a c fixL _ _ w2 HL.out ha (by rw [fixL_len]; omega)
    rw [fixL_len] at this
    simpa using this
  have hs2 : ∀ W, Kept NoB w2 W → Calls Try.prog 9 #[.slice (some ⟨H, 0, none⟩) 32 32, .slice b 32 d] W fun e w' => e = .returned (.bool true) ∧ Kept NoB W w' := fun W hk => by
    have := sameInts_any (some ⟨H, 0, none⟩) 32 fixD b d fixD _ _ W (HD.out.kept hk (fun _ _ e => e)).room (hb.keptNo hk) (by rw [fixD_len]; omega)
    rw [fixD_len] at this
    simpa using this
  have hs3 : ∀ W, Kept NoB w2 W → Calls Try.prog 10 #[.slice (some ⟨G, 0, none⟩) 288 288] W fun e w' => e = .returned (.int .i64 3) ∧ Kept NoB W w' := fun W hk => by
    have := rkind_any (some ⟨G, 0, none⟩) 288 _ fixL W (HL.out.keptNo hk) fixL_all (by rw [fixL_len]; omega)
    rw [fixL_len, kind_fixL] at this
    exact this
  have hs4 : ∀ W, Kept NoB w2 W → Calls Try.prog 10 #[.slice (some ⟨H, 0, none⟩) 32 32] W fun e w' => e = .returned (.int .i64 3) ∧ Kept NoB W w' := fun W hk => by
    have := rkind_any (some ⟨H, 0, none⟩) 32 _ fixD W (HD.out.kept hk (fun _ _ e => e)).room fixD_all (by rw [fixD_len]; omega)
    rw [fixD_len, kind_fixD] at this
    exact this
  have HS1 := Lib.hid hs1; have HS2 := Lib.hid hs2; have HS3 := Lib.hid hs3; have HS4 := Lib.hid hs4
  clear ha hb hk2 hs1 hs2 hs3 hs4 HRf
  go_wp2_with fail
  refine HS1.out.mono ?_
  rintro e w3 ⟨rfl, hk3⟩
  have HK3 := Lib.hid hk3
  clear hk3
  go_wp2_with fail
  refine (HS2.out w3 HK3.out).mono ?_
  rintro e w4 ⟨rfl, hk4⟩
  have HK4 := Lib.hid (HK3.out.trans hk4)
  clear hk4
  go_wp2_with fail
  refine (HS3.out w4 HK4.out).mono ?_
  rintro e w5 ⟨rfl, hk5⟩
  have HK5 := Lib.hid (HK4.out.trans hk5)
  clear hk5
  go_wp2_with fail
  refine (HS4.out w5 HK5.out).mono ?_
  rintro e w6 ⟨rfl, hk6⟩
  have HK6 := Lib.hid (HK5.out.trans hk6)
  clear hk6
  go_wp2_with fail
  refine (awake9 w6).mono ?_
  rintro e w7 ⟨rfl, hk7⟩
  have HK7 := Lib.hid ((HK2.out.trans HK6.out).trans hk7)
  clear hk7
  go_wp2
  go_ret
  exact ⟨rfl, HK7.out.belowNo (Below.refl _ _)⟩
end Go.Proofs.Ythapkciebphhkaa
