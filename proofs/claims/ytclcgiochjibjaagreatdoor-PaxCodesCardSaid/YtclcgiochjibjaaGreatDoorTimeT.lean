/-
  pax.Time.
-/
import Derived.Test.YtclcgiochjibjaaGreatDoorTimeW
import Derived.Test.YtclcgiochjibjaaGreatDoorPaxD
namespace Go.Proofs.YtclcgiochjibjaaGreatDoor
open Go.RowKit
set_option linter.unusedVariables false
set_option linter.unusedSimpArgs false

theorem pre_neg (l : List UInt8) : Lib.hasPrefix l [45] = negT l ∧ Lib.trimPrefix l [45] = bodyT l := by
  cases l with
  | nil => exact ⟨rfl, rfl⟩
  | cons b r =>
    have e : Lib.hasPrefix (b :: r) [45] = negT (b :: r) := by
      unfold Lib.hasPrefix negT
      by_cases hb : b = 45
      · subst hb; simp
      · have h1 : ((45 : UInt8) == b) = false := by simpa using Ne.symm hb
        have h2 : ((some b : Option UInt8) == some 45) = false := by simpa using hb
        rw [List.head?_cons, h2]
        show ((45 : UInt8) == b && _) = false
        rw [h1]; rfl
    refine ⟨e, ?_⟩
    unfold Lib.trimPrefix bodyT
    rw [e]
    split <;> rfl
theorem bodyT_len (l : List UInt8) : (bodyT l).length ≤ l.length := by
  unfold bodyT
  split
  · rw [List.length_tail]; omega
  · exact Nat.le_refl _

set_option maxRecDepth 20000 in
set_option maxHeartbeats 8000000 in
theorem time_any (l : List UInt8) (w : World) (hl : l.length ≤ 1000000) :
    Calls Tryz.prog 11 #[.string (strB l)] w fun e w' => e = .returned (.tuple #[.int .i64 (timeS l).1, .bool (timeS l).2]) ∧ Kept NoB w w' := by
  obtain ⟨p1, p2⟩ := pre_neg l
  have hbl := bodyT_len l
  have hPre := fun W => Tryz.strings_CutPrefix (strB l) ⟨#[45]⟩ W
  have hPre2 : ∀ W, Calls Tryz.prog 22 #[.string (strB l), .string ⟨#[45]⟩] W fun e w' => e = .returned (.tuple #[.string (strB (bodyT l)), .bool (negT l)]) ∧ w' = W := by
    rw [← p2, ← p1]; exact hPre
  have hts : timeS l = if okT (bodyT l) then sgnT (magT (bodyT l)) (negT l) else (0, false) := rfl
  obtain ⟨s, hs⟩ : ∃ s, s = bodyT l := ⟨_, rfl⟩
  obtain ⟨neg, hneg⟩ : ∃ neg, neg = negT l := ⟨_, rfl⟩
  rw [← hs, ← hneg] at hPre2 hts
  rw [← hs] at hbl
  have hC := fun W => cut_any (strB s) 46 W (by rw [strB_size]; omega)
  rw [strB_data] at hC
  have hcl := cutP_len 46 s
  obtain ⟨wh, hwh⟩ : ∃ wh, wh = (cutP 46 s).1 := ⟨_, rfl⟩
  obtain ⟨fr, hfr⟩ : ∃ fr, fr = (cutP 46 s).2.1 := ⟨_, rfl⟩
  obtain ⟨pt, hpt⟩ : ∃ pt, pt = (cutP 46 s).2.2 := ⟨_, rfl⟩
  have hok : okT s = (allD wh 19 && (!pt || allD fr 30)) := by rw [hwh, hfr, hpt]; rfl
  have hmag : magT s = digV wh * 1000000000 + digV (nine fr) := by rw [hwh, hfr, magT]
  have hptf : pt = false → fr = [] := by
    intro h
    rw [hpt] at h
    rcases cutP_index 46 s with ⟨_, h2⟩ | ⟨k, _, _, h2⟩
    · rw [hfr, h2]
    · rw [h2] at h; cases h
  rw [← hwh, ← hfr, ← hpt] at hC
  rw [← hwh, ← hfr] at hcl
  have HPre := Lib.hid hPre2; have HC := Lib.hid hC; have HTS := Lib.hid hts; have HOk := Lib.hid hok; have HMag := Lib.hid hmag; have HPf := Lib.hid hptf
  have HA1 := Lib.hid (fun W => allDigits_any wh 19 W (by omega) (by decide))
  have HA2 := Lib.hid (fun W => allDigits_any fr 30 W (by omega) (by decide))
  clear hPre hPre2 hC hts hok hmag hptf hwh hfr hpt hs hneg p1 p2
  -- the texts of digits
  have HP1 : Hid (allD wh 19 = true → ∀ W, Calls Tryz.prog 24 #[.string (strB wh), .int .i64 10, .int .i64 64] W fun e w' => e = .returned (.tuple #[.int .u64 (digV wh : Int), .nilIface]) ∧ Kept NoB W w') := Lib.hid (fun ha W => by
    simp only [allD, Bool.and_eq_true, decide_eq_true_eq, Bool.not_eq_true'] at ha
    have hne : wh ≠ [] := by intro e; rw [e] at ha; simp at ha
    refine (Tryz.strconv_ParseUint_10_at64_ok (strB wh) (by rw [strB_size]; omega) (digV wh) (by rw [strB_data]; exact parse_dig64 wh ha.2 hne ha.1.2) W).mono ?_
    rintro e w' ⟨rfl, hw⟩
    exact ⟨rfl, kept_bytes (hw.imp id fun h => ⟨_, h⟩)⟩)
  have HP2 : Hid (fr.all isD = true → ∀ W, Calls Tryz.prog 24 #[.string (strB (nine fr)), .int .i64 10, .int .i64 64] W fun e w' => e = .returned (.tuple #[.int .u64 (digV (nine fr) : Int), .nilIface]) ∧ Kept NoB W w') := Lib.hid (fun ha W => by
    have h9 := nine_len fr
    have hne : nine fr ≠ [] := by intro e; rw [e] at h9; simp at h9
    refine (Tryz.strconv_ParseUint_10_at64_ok (strB (nine fr)) (by rw [strB_size]; omega) (digV (nine fr)) (by rw [strB_data]; exact parse_dig64 _ (nine_all fr ha) hne (by omega)) W).mono ?_
    rintro e w' ⟨rfl, hw⟩
    exact ⟨rfl, kept_bytes (hw.imp id fun h => ⟨_, h⟩)⟩)
  have HRp := Lib.hid (fun W => Tryz.strings_Repeat_main ⟨#[48]⟩ 9 W (by decide) (by decide) (by decide) (by decide))
  have HRp2 : Hid (∀ W, Calls Tryz.prog 25 #[.string ⟨#[48]⟩, .int .i64 9] W fun e w' => e = .returned (.string (strB (List.replicate 9 48))) ∧ Kept NoB W w') := Lib.hid (fun W => (HRp.out W).mono (by
    rintro e w' ⟨rfl, hb⟩
    exact ⟨rfl, (Kept.refl NoB W).ofBelow hb⟩))
  have hadd := fun W => run_string_add_sum (P := Tryz.prog) W (strB fr) (strB (List.replicate 9 48)) (by rw [strB_size, strB_size, List.length_replicate]; omega)
  rw [strB_app] at hadd
  have hnine : (strB (fr ++ List.replicate 9 48)).extract 0 9 = strB (nine fr) := by rw [strB_extract]; rfl
  have hasz : (strB (fr ++ List.replicate 9 48)).size = fr.length + 9 := by rw [strB_size, List.length_append, List.length_replicate]
  have hv1 : allD wh 19 = true → digV wh < 10000000000000000000 := fun ha => by
    simp only [allD, Bool.and_eq_true, decide_eq_true_eq] at ha
    have h1 := digV_lt wh ha.2
    have h2 : 10 ^ wh.length ≤ 10 ^ 19 := Nat.pow_le_pow_right (by decide) ha.1.2
    omega
  have hv2 : fr.all isD = true → digV (nine fr) < 1000000000 := fun ha => by
    have h1 := digV_lt _ (nine_all fr ha)
    rw [nine_len] at h1
    omega
  have HV1 := Lib.hid hv1; have HV2 := Lib.hid hv2
  have HAl : Hid (allD fr 30 = true → fr.all isD = true) := Lib.hid (fun h => by simp only [allD, Bool.and_eq_true] at h; exact h.2)
  have HSg := Lib.hid (fun (n : Nat) (W : World) (h : n < 18446744073709551616) => signed_any n neg W h)
  clear HRp hv1 hv2 hcl hbl hl
  obtain ⟨sec, hsec⟩ : ∃ sec, sec = digV wh := ⟨_, rfl⟩
  obtain ⟨nan, hnan⟩ : ∃ nan, nan = digV (nine fr) := ⟨_, rfl⟩
  rw [← hsec] at HP1 HMag HV1
  rw [← hnan] at HP2 HMag HV2
  clear hsec hnan
  generalize strB l = S0 at *
  generalize strB s = S at *
  obtain ⟨a1, ha1⟩ : ∃ a1, a1 = allD wh 19 := ⟨_, rfl⟩
  obtain ⟨a2, ha2⟩ : ∃ a2, a2 = allD fr 30 := ⟨_, rfl⟩
  rw [← ha1] at HOk HA1 HP1 HV1
  rw [← ha2] at HOk HA2 HAl
  clear ha1 ha2
  obtain ⟨fl, hfl⟩ : ∃ fl, fl = fr.length := ⟨_, rfl⟩
  rw [← hfl] at hasz
  have HFr : Hid (pt = false → fr.all isD = true) := Lib.hid (fun h => by rw [HPf.out h]; rfl)
  generalize strB wh = WH at *
  generalize strB fr = FR at *
  generalize strB (nine fr) = NF at *
  generalize strB (List.replicate 9 48) = Z9 at *
  generalize strB (fr ++ List.replicate 9 48) = FZ at *
  clear hfl
  generalize hfd : fr.all isD = fd at *
  clear hfd
  go_enter Tryz.func11, Tryz.ntmps11
  go_wp2_with fail
  refine (HPre.out _).mono ?_
  rintro e w1 ⟨rfl, hw1⟩
  rw [hw1]
  clear hw1
  go_wp2_with fail
  refine (HC.out _).mono ?_
  rintro e w2 ⟨rfl, hk2⟩
  have HK2 := Lib.hid hk2
  clear hk2
  go_wp2_with fail
  refine (HA1.out _).mono ?_
  rintro e w3 ⟨rfl, hw3⟩
  rw [← hw3]
  clear hw3
  -- the end of it, once the digits are looked at
  have HEnd : Hid (a1 = true → fd = true → okT s = true → sec < 10000000000000000000 ∧ nan < 1000000000) := Lib.hid (fun h1 h2 _ => ⟨HV1.out h1, HV2.out h2⟩)
  cases a1 with
  | false =>
    have HF : Hid (timeS l = (0, false)) := Lib.hid (by rw [HTS.out, HOk.out]; rfl)
    go_wp2
    go_ret2
    exact ⟨by rw [HF.out]; rfl, HK2.out⟩
  | true =>
    cases pt with
    | true =>
      go_wp2_with fail
      refine (HA2.out _).mono ?_
      rintro e w4 ⟨rfl, hw4⟩
      rw [← hw4]
      clear hw4
      cases a2 with
      | false =>
        have HF : Hid (timeS l = (0, false)) := Lib.hid (by rw [HTS.out, HOk.out]; rfl)
        go_wp2
        go_ret2
        exact ⟨by rw [HF.out]; rfl, HK2.out⟩
      | true =>
        have hok : okT s = true := by rw [HOk.out]; rfl
        have hfd : fd = true := HAl.out (by trivial)
        subst hfd
        have hb := HEnd.out (by trivial) (by trivial) hok
        have HT2 : Hid (timeS l = sgnT (sec * 1000000000 + nan) neg) := Lib.hid (by rw [HTS.out, hok, HMag.out, if_pos rfl])
        clear hok
        go_wp2_with fail
        refine (HP1.out (by trivial) _).mono ?_
        rintro e w5 ⟨rfl, hk5⟩
        have HK5 := Lib.hid (HK2.out.trans hk5)
        clear hk5
        by_cases hsec : (9223372036 : Int) < (sec : Int)
        · have HF : Hid (timeS l = (0, false)) := Lib.hid (by
            rw [HT2.out]
            unfold sgnT
            have : 9223372036 < sec := by omega
            cases neg with
            | true => rw [if_pos rfl, if_neg (by omega)]
            | false => rw [if_neg (by decide), if_neg (by omega)])
          go_wp2
          go_ret2
          exact ⟨by rw [HF.out]; rfl, HK5.out⟩
        · go_wp2_with fail
          refine (HRp2.out _).mono ?_
          rintro e w6 ⟨rfl, hk6⟩
          have HK6 := Lib.hid (HK5.out.trans hk6)
          clear hk6
          have h9 : (9 : Int) ≤ (FZ.size : Int) := by omega
          go_wp2_with fail
          refine (HP2.out (by trivial) _).mono ?_
          rintro e w7 ⟨rfl, hk7⟩
          have HK7 := Lib.hid (HK6.out.trans hk7)
          clear hk7
          obtain ⟨sm, hsm⟩ : ∃ sm, sm = sec * 1000000000 := ⟨_, rfl⟩
          obtain ⟨n, hn⟩ : ∃ n, n = sm + nan := ⟨_, rfl⟩
          have hw1 : IntKind.u64.wrap ((sec : Int) * 1000000000) = (sm : Int) := by rw [IntKind.wrap_u64]; omega
          have hw2 : IntKind.u64.wrap ((sm : Int) + (nan : Int)) = (n : Int) := by rw [IntKind.wrap_u64]; omega
          have HS2 := Lib.hid (fun W => HSg.out n W (by omega))
          have HF : Hid (timeS l = sgnT n neg) := Lib.hid (by rw [HT2.out, hn, hsm])
          clear hn hsm
          go_wp2_with fail
          refine (HS2.out _).mono ?_
          rintro e w8 ⟨rfl, hw8⟩
          rw [← hw8]
          clear hw8
          go_wp2
          go_ret2
          exact ⟨by rw [HF.out]; rfl, HK7.out⟩
    | false =>
      have hok : okT s = true := by rw [HOk.out]; rfl
      have hfd : fd = true := HFr.out (by trivial)
      subst hfd
      have hb := HEnd.out (by trivial) (by trivial) hok
      have HT2 : Hid (timeS l = sgnT (sec * 1000000000 + nan) neg) := Lib.hid (by rw [HTS.out, hok, HMag.out, if_pos rfl])
      clear hok
      go_wp2_with fail
      refine (HP1.out (by trivial) _).mono ?_
      rintro e w5 ⟨rfl, hk5⟩
      have HK5 := Lib.hid (HK2.out.trans hk5)
      clear hk5
      by_cases hsec : (9223372036 : Int) < (sec : Int)
      · have HF : Hid (timeS l = (0, false)) := Lib.hid (by
          rw [HT2.out]
          unfold sgnT
          have : 9223372036 < sec := by omega
          cases neg with
          | true => rw [if_pos rfl, if_neg (by omega)]
          | false => rw [if_neg (by decide), if_neg (by omega)])
        go_wp2
        go_ret2
        exact ⟨by rw [HF.out]; rfl, HK5.out⟩
      · go_wp2_with fail
        refine (HRp2.out _).mono ?_
        rintro e w6 ⟨rfl, hk6⟩
        have HK6 := Lib.hid (HK5.out.trans hk6)
        clear hk6
        have h9 : (9 : Int) ≤ (FZ.size : Int) := by omega
        go_wp2_with fail
        refine (HP2.out (by trivial) _).mono ?_
        rintro e w7 ⟨rfl, hk7⟩
        have HK7 := Lib.hid (HK6.out.trans hk7)
        clear hk7
        obtain ⟨sm, hsm⟩ : ∃ sm, sm = sec * 1000000000 := ⟨_, rfl⟩
        obtain ⟨n, hn⟩ : ∃ n, n = sm + nan := ⟨_, rfl⟩
        have hw1 : IntKind.u64.wrap ((sec : Int) * 1000000000) = (sm : Int) := by rw [IntKind.wrap_u64]; omega
        have hw2 : IntKind.u64.wrap ((sm : Int) + (nan : Int)) = (n : Int) := by rw [IntKind.wrap_u64]; omega
        have HS2 := Lib.hid (fun W => HSg.out n W (by omega))
        have HF : Hid (timeS l = sgnT n neg) := Lib.hid (by rw [HT2.out, hn, hsm])
        clear hn hsm
        go_wp2_with fail
        refine (HS2.out _).mono ?_
        rintro e w8 ⟨rfl, hw8⟩
        rw [← hw8]
        clear hw8
        go_wp2
        go_ret2
        exact ⟨by rw [HF.out]; rfl, HK7.out⟩
end Go.Proofs.YtclcgiochjibjaaGreatDoor
