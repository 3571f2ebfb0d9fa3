/-
  awake of layer 19.
-/
import Derived.Test.YtbambcondcikbaaDoorDenN
namespace Go.Proofs.YtbambcondcikbaaDoor
open Go.RowKit
set_option linter.unusedVariables false
set_option linter.unusedSimpArgs false

theorem map5 : (mapB 5 []).length = 512 ∧ (mapB 5 []).take 6 = [49, 10, 53, 10, 48, 10] ∧ okS 5 [] = true := by decide +kernel
set_option maxRecDepth 20000 in
set_option maxHeartbeats 8000000 in
theorem awake19 (w : World) (htab : Pow10 w) (herr : ErrVars w) : Calls Tryd.prog 17 #[] w fun e w' => e = .returned (.bool true) ∧ Kept NoB w w' := by
  have HT := Lib.hid htab; have HE := Lib.hid herr
  have HEn := Lib.hid (spenc_any 5 none 0 0 [] w (by omega) (by omega) rfl (rdp_nil w) intp_nil (by omega) (by unfold maxLen; omega) (by simp [sumS]) htab)
  have HNil := Lib.hid (fun W => spdec_nil 5 W)
  have HH5 := Lib.hid (fun W => holes_any 5 none 0 0 [] W (by omega) (by omega) rfl (rdp_nil W) intp_nil (by omega) (by unfold maxLen; omega))
  have HH0 := Lib.hid (fun W => holes_any 0 none 0 0 [] W (by omega) (by omega) rfl (rdp_nil W) intp_nil (by omega) (by unfold maxLen; omega))
  clear htab herr
  go_enter Tryd.func17, Tryd.ntmps17
  go_wp2_with fail
  with_reducible refine HEn.out.mono ?_
  rintro e w1 (⟨hok, _⟩ | ⟨a, c, _, rfl, hB⟩)
  · rw [map5.2.2] at hok; cases hok
  have hdy := dec_yes 5 [] map5.2.2
  have hlen := map5.1
  have htk := map5.2.1
  obtain ⟨M, hM⟩ : ∃ M, M = mapB 5 [] := ⟨_, rfl⟩
  rw [← hM] at hB hdy hlen htk ⊢
  rw [hlen] at hB ⊢
  obtain ⟨g, rfl⟩ := hB.some (by intro e; rw [e] at hlen; simp at hlen)
  have hcap := hB.cap
  have hD := spdec_any 5 g 0 512 c M w1 (by omega) (by omega) hlen.symm hB.reads hcap.1 hcap.2.1 (by omega) (HT.out.keptNo hB.kept) (HE.out.keptNo hB.kept)
  have hcv : ∀ (cc : Nat) W, Kept NoB w1 W → (convert 26 9 (.slice (some ⟨g, 0, none⟩) 6 cc)).run Tryd.prog W = .ok (.string ⟨#[49, 10, 53, 10, 48, 10]⟩) W := fun cc W hW => by
    have hr := reads_take 6 (hB.reads.keptNo hW)
    have e : (nb M).take 6 = nb [49, 10, 53, 10, 48, 10] := by rw [← htk]; simp [nb]
    rw [e] at hr
    have := conv_reads (n := 6) (cap := cc) hr (by rw [nb_len]; rfl) (fun h => by cases h)
    rw [nb_str] at this
    exact this
  have HD := Lib.hid hD; have HCv := Lib.hid hcv; have HDy := Lib.hid hdy; have HK1 := Lib.hid hB.kept
  have hc6 : 512 ≤ c := hcap.1
  clear hB hD hcv hdy hlen htk hM hcap
  go_wp2_with fail
  with_reducible refine HD.out.mono ?_
  rintro e w2 (⟨hno, _⟩ | ⟨qs, a2, c2, hyes, rfl, hP⟩)
  · rw [HDy.out] at hno; cases hno
  have hq0 : qs.length = 0 := by
    rw [HDy.out] at hyes
    have := congrArg (Option.map List.length) hyes
    simpa using this.symm
  rw [hq0] at hP ⊢
  have HK2 := Lib.hid hP.kept
  clear hyes hP hq0
  go_wp2_with fail
  with_reducible refine (HNil.out _).mono ?_
  rintro e w3 ⟨rfl, hk3⟩
  have HK3 := Lib.hid (HK2.out.trans hk3)
  have hcv3 := fun cc => HCv.out cc w3 HK3.out
  clear hk3
  go_wp2_with fail
  with_reducible refine (HH5.out _).mono ?_
  rintro e w4 ⟨rfl, hk4⟩
  have HK4 := Lib.hid (HK3.out.trans hk4)
  clear hk4
  go_wp2_with fail
  with_reducible refine (HH0.out _).mono ?_
  rintro e w5 ⟨rfl, hk5⟩
  have HK5 := Lib.hid (HK4.out.trans hk5)
  clear hk5
  go_wp2
  go_ret
  exact ⟨by first | rfl | decide, HK1.out.trans HK5.out⟩
end Go.Proofs.YtbambcondcikbaaDoor
