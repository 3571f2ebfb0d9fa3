/-
  NumBounds: the greatest number that goes into a field does, one more does not; wide, the least int and the greatest go into twelve bytes.
-/
import Derived.Test.YtligfngbmahdkaaDoorOctM
import Derived.Test.YtligfngbmahdkaaDoorAwake16
import Derived.Deep.CutRange
namespace Go.Proofs.YtligfngbmahdkaaDoor
open Go.RowKit
set_option linter.unusedVariables false
set_option linter.unusedSimpArgs false

set_option maxRecDepth 100000 in
set_option maxHeartbeats 1000000 in
theorem numBounds_walk (a b : Int) (w : World) (htab : Pow10 w) : Calls Tryd.prog 3 #[.int .i64 a, .int .i64 b] w fun e w' => e = .returned (.bool true) ∧ Below w.heap.size w w' := by
  have HT := Lib.hid htab
  clear htab
  obtain ⟨K, hK⟩ : ∃ K : Nat, (K : Int) = a % 256 % 11 + 1 := ⟨(a % 256 % 11 + 1).toNat, Int.toNat_of_nonneg (by omega)⟩
  obtain ⟨B, hB⟩ : ∃ B : Nat, (B : Int) = b % 256 := ⟨(b % 256).toNat, Int.toNat_of_nonneg (by omega)⟩
  have hKr : 1 ≤ K ∧ K ≤ 11 := by omega
  obtain ⟨tp, htp⟩ : ∃ tp : Nat, tp = 8 ^ K - 1 := ⟨_, rfl⟩
  have hpos : 8 ≤ 8 ^ K ∧ 8 ^ K ≤ 8589934592 := ⟨Nat.pow_le_pow_right (n := 8) (by decide) hKr.1, Nat.pow_le_pow_right (n := 8) (by decide) hKr.2⟩
  obtain ⟨wd, hwd⟩ : ∃ wd : Nat, wd = K + 1 := ⟨_, rfl⟩
  have HWd := Lib.hid hwd
  have HK := Lib.hid hK; have HB := Lib.hid hB; have HTp := Lib.hid htp; have HPos := Lib.hid hpos
  have hma := mask255 a
  have hmb := mask255 b
  clear hK hB htp hpos hwd
  go_enter Tryd.func3, Tryd.ntmps3
  go_upto_region 1 with fail
  go_cut [0] from 22 to 25 (fun s wx => s = .int .i64 (wd : Int) ∧ w = wx)
  case first =>
    go_wp2
    go_meet
    exact ⟨by have := HK.out; have := HWd.out; congr 1; omega, rfl⟩
  case rest =>
  obtain ⟨rfl, rfl⟩ := hcut
  go_upto_region 2 with fail
  go_cut [1] from 26 to 27 (fun s wx => s = .int .i64 (B : Int) ∧ w = wx)
  case first =>
    go_wp2
    go_meet
    exact ⟨by rw [HB.out], rfl⟩
  case rest =>
  obtain ⟨rfl, rfl⟩ := hcut
  go_upto_region 3 with fail
  go_cut [5] from 28 to 32 (fun s wx => s = .int .i64 (tp : Int) ∧ w = wx)
  case first =>
    have hc : K = 1 ∨ K = 2 ∨ K = 3 ∨ K = 4 ∨ K = 5 ∨ K = 6 ∨ K = 7 ∨ K = 8 ∨ K = 9 ∨ K = 10 ∨ K = 11 := by omega
    have htp := HTp.out
    have hwd := HWd.out
    rcases hc with rfl | rfl | rfl | rfl | rfl | rfl | rfl | rfl | rfl | rfl | rfl
    all_goals
      simp only [Nat.reducePow, Nat.reduceSub] at htp
      simp only [Nat.reduceAdd] at hwd
      subst htp hwd
      go_wp2
      go_meet
      exact ⟨rfl, rfl⟩
  case rest =>
  obtain ⟨rfl, rfl⟩ := hcut
  clear hma hmb
  obtain ⟨m, hm⟩ : ∃ m : Nat, m = tp - min B tp := ⟨_, rfl⟩
  have hB255 : B ≤ 255 := by have := HB.out; omega
  have htpr : 7 ≤ tp ∧ tp ≤ 8589934591 := by have := HTp.out; have := HPos.out; omega
  have hS1 : octS (m : Int) ((K + 1 : Nat) : Int) = (fld (oc m) K K true, true) := by
    unfold octS
    rw [show ((K + 1 : Nat) : Int).toNat - 1 = K by omega, if_pos ⟨by omega, by omega, by omega, (sh_zero m K).2 (by have := HTp.out; have := HPos.out; omega)⟩]
  have hS2 : octS ((tp + 1 + B : Nat) : Int) ((K + 1 : Nat) : Int) = ([], false) := by
    unfold octS
    rw [show ((K + 1 : Nat) : Int).toNat - 1 = K by omega, if_neg (fun h => ?_)]
    have := (sh_zero (tp + 1 + B) K).1 h.2.2.2
    have := HTp.out; have := HPos.out; omega
  have hS3 : readS (fld (oc m) K K true) = ((m : Int), true) := readS_oct m (by omega) K hKr ((sh_zero m K).2 (by have := HTp.out; have := HPos.out; omega))
  have o1 := octal_any (m : Int) ((K + 1 : Nat) : Int) w (by omega)
  rw [hS1] at o1
  have o2 := fun W => octal_any ((tp + 1 + B : Nat) : Int) ((K + 1 : Nat) : Int) W (by omega)
  rw [hS2] at o2
  have hfl := fld_len (oc m) K K true
  have hfa := fld_all (oc m) (oc_lt m) K K true
  generalize fld (oc m) K K true = row at o1 hS3 hfl hfa
  have O1 := Lib.hid o1; have O2 := Lib.hid o2; have S3 := Lib.hid hS3; have FL := Lib.hid hfl; have FA := Lib.hid hfa; have HM := Lib.hid hm
  have hcase : (¬ (tp : Int) < B ∧ (tp : Int) - B = m) ∨ ((tp : Int) < B ∧ m = 0) := by omega
  clear o1 o2 hS1 hS2 hS3 hfl hfa hm
  obtain ⟨ov, hov⟩ : ∃ ov : Int, (tp : Int) + 1 + B = ov := ⟨_, rfl⟩
  have Q1 : Hid (Calls Tryd.prog 8 #[.int .i64 (m : Int), .int .i64 (wd : Int)] w fun e w' => ∃ ao cap, e = .returned (.tuple #[.slice ao wd cap, .bool true]) ∧ Hid (Reads w' ao row) ∧ wd ≤ cap ∧ cap ≤ 9223372036854775807 ∧ Hid (Kept NoB w w')) := by
    rw [HWd.out]
    refine O1.out.mono ?_
    rintro e w' ⟨ao, cap, rfl, h1, h2, h3, h4, h5⟩
    simp only at h1 h3
    refine ⟨ao, cap, ?_, h1, by rw [← FL.out]; exact h3, by unfold maxLen at h4; omega, h5⟩
    rw [← FL.out]
  have Q2 : Hid (∀ W, Calls Tryd.prog 8 #[.int .i64 ov, .int .i64 (wd : Int)] W fun e w' => ∃ ao cap, e = .returned (.tuple #[.slice ao 0 cap, .bool false]) ∧ Hid (Kept NoB W w')) := fun W => by
    rw [HWd.out, ← hov]
    refine (O2.out W).mono ?_
    rintro e w' ⟨ao, cap, rfl, h1, h2, h3, h4, h5⟩
    exact ⟨ao, cap, rfl, h5⟩
  have W1 : Hid (∀ W, Calls Tryd.prog 10 #[.int .i64 (-9223372036854775808), .int .i64 12] W fun e w' => ∃ ao cap, e = .returned (.tuple #[.slice ao 12 cap, .bool true]) ∧ Hid (Reads w' ao [255, 255, 255, 255, 128, 0, 0, 0, 0, 0, 0, 0]) ∧ 12 ≤ cap ∧ cap ≤ 9223372036854775807 ∧ Hid (Kept NoB W w')) := fun W => by
    have h := wide_any (-9223372036854775808) 12 W (by decide)
    rw [show wideS (-9223372036854775808) 12 = ([255, 255, 255, 255, 128, 0, 0, 0, 0, 0, 0, 0], true) from by decide +kernel] at h
    refine h.mono ?_
    rintro e w' ⟨ao, cap, rfl, h1, h2, h3, h4, h5⟩
    exact ⟨ao, cap, rfl, h1, h3, by unfold maxLen at h4; omega, h5⟩
  have W2 : Hid (∀ W, Calls Tryd.prog 10 #[.int .i64 9223372036854775807, .int .i64 12] W fun e w' => ∃ ao cap, e = .returned (.tuple #[.slice ao 12 cap, .bool true]) ∧ Hid (Reads w' ao [128, 0, 0, 0, 127, 255, 255, 255, 255, 255, 255, 255]) ∧ 12 ≤ cap ∧ cap ≤ 9223372036854775807 ∧ Hid (Kept NoB W w')) := fun W => by
    have h := wide_any 9223372036854775807 12 W (by decide)
    rw [show wideS 9223372036854775807 12 = ([128, 0, 0, 0, 127, 255, 255, 255, 255, 255, 255, 255], true) from by decide +kernel] at h
    refine h.mono ?_
    rintro e w' ⟨ao, cap, rfl, h1, h2, h3, h4, h5⟩
    exact ⟨ao, cap, rfl, h1, h3, by unfold maxLen at h4; omega, h5⟩
  have W3 : Hid (∀ W, Calls Tryd.prog 10 #[.int .i64 9223372036854775807, .int .i64 8] W fun e w' => ∃ ao cap, e = .returned (.tuple #[.slice ao 0 cap, .bool false]) ∧ Hid (Kept NoB W w')) := fun W => by
    have h := wide_any 9223372036854775807 8 W (by decide)
    rw [show wideS 9223372036854775807 8 = ([], false) from by decide +kernel] at h
    refine h.mono ?_
    rintro e w' ⟨ao, cap, rfl, h1, h2, h3, h4, h5⟩
    exact ⟨ao, cap, rfl, h5⟩
  have r1 : readS [255, 255, 255, 255, 128, 0, 0, 0, 0, 0, 0, 0] = (-9223372036854775808, true) := by decide +kernel
  have r2 : readS [128, 0, 0, 0, 127, 255, 255, 255, 255, 255, 255, 255] = (9223372036854775807, true) := by decide +kernel
  have R1 := Lib.hid r1; have R2 := Lib.hid r2
  have hFW : Hid (row.length = wd) := by rw [HWd.out]; exact FL.out
  clear r1 r2 O1 O2 FL
  clear hcase
  have hmi : (tp : Int) - min (B : Int) (tp : Int) = (m : Int) := by have := HM.out; omega
  go_wp2_with fail
  try rw [hmi]
  refine Q1.out.mono ?_
  rintro e w1 ⟨a1, c1, rfl, HR1, hl1, hc1, hk1⟩
  go_wp2_with fail
  refine (Q2.out _).mono ?_
  rintro e w2 ⟨a2, c2, rfl, hk2⟩
  have rd1 := read_any a1 c1 wd row w2 (HR1.out.keptNo hk2.out) FA.out hFW.out hl1 hc1
  rw [S3.out] at rd1
  have RD1 := Lib.hid rd1
  clear rd1
  go_wp2_with fail
  refine RD1.out.mono ?_
  rintro e w3 ⟨rfl, rfl⟩
  clear RD1
  go_wp2_with fail
  refine (W1.out _).mono ?_
  rintro e w3 ⟨a3, c3, rfl, HR3, hl3, hc3, hk3⟩
  have rd2 := read_any a3 c3 12 [255, 255, 255, 255, 128, 0, 0, 0, 0, 0, 0, 0] w3 HR3.out (by intro b hb; simp at hb; omega) rfl hl3 hc3
  rw [R1.out] at rd2
  have RD2 := Lib.hid rd2
  clear rd2
  go_wp2_with fail
  refine RD2.out.mono ?_
  rintro e w4 ⟨rfl, rfl⟩
  clear RD2
  go_wp2_with fail
  refine (W2.out _).mono ?_
  rintro e w4 ⟨a4, c4, rfl, HR4, hl4, hc4, hk4⟩
  have rd3 := read_any a4 c4 12 [128, 0, 0, 0, 127, 255, 255, 255, 255, 255, 255, 255] w4 HR4.out (by intro b hb; simp at hb; omega) rfl hl4 hc4
  rw [R2.out] at rd3
  have RD3 := Lib.hid rd3
  clear rd3
  go_wp2_with fail
  refine RD3.out.mono ?_
  rintro e w5 ⟨rfl, rfl⟩
  clear RD3
  go_wp2_with fail
  refine (W3.out _).mono ?_
  rintro e w5 ⟨a5, c5, rfl, hk5⟩
  have HKz := Lib.hid ((((hk1.out.trans hk2.out).trans hk3.out).trans hk4.out).trans hk5.out)
  have hAw := Lib.hid (awake16 w5 (HT.out.keptNo HKz.out))
  go_wp2_with fail
  refine hAw.out.mono ?_
  rintro e w6 ⟨rfl, hb6⟩
  have hfin := (HKz.out.ofBelow hb6).belowNo (Below.refl _ _)
  go_wp2
  go_ret
  exact ⟨rfl, hfin⟩

theorem numBounds_law (v0 v1 : Value) (w : World) (r0 : Arg w 3 v0) (r1 : Arg w 3 v1) (htab : Pow10 w) : Calls Tryd.prog 3 #[v0, v1] w fun e w' => e = .returned (.bool true) ∧ Below w.heap.size w w' := by
  obtain ⟨a, rfl, _⟩ := r0.int Tryd.underlying3
  obtain ⟨b, rfl, _⟩ := r1.int Tryd.underlying3
  exact numBounds_walk a b w htab
end Go.Proofs.YtligfngbmahdkaaDoor
