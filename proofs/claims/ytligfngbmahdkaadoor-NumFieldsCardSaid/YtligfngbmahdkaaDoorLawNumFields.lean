/-
  NumFields: any number is put into a field of any width as the document says, in octal digits or wide, or does not go in; and is read from it.
-/
import Derived.Test.YtligfngbmahdkaaDoorRefOct
import Derived.Test.YtligfngbmahdkaaDoorAwake16
namespace Go.Proofs.YtligfngbmahdkaaDoor
open Go.RowKit
set_option linter.unusedVariables false
set_option linter.unusedSimpArgs false

/-- Read of what a field told. -/
theorem read_told {s : List Int × Bool} {w : World} {ao : Option Addr} {cap : Nat} (hr : Reads w ao s.1) (hb : AllB s.1) (hl : s.1.length ≤ cap) (hc : cap ≤ maxLen) :
    Calls Tryd.prog 9 #[.slice ao s.1.length cap] w fun e w' => e = .returned (.tuple #[.int .i64 (readS s.1).1, .bool (readS s.1).2]) ∧ w = w' :=
  read_any ao cap s.1.length s.1 w hr hb rfl hl (by unfold maxLen at hc; omega)
theorem octS_all (n wd : Int) : AllB (octS n wd).1 := by
  unfold octS
  split
  · exact fld_all _ (oc_lt n) _ _ _
  · intro b hb; cases hb
theorem wideS_all (n wd : Int) : AllB (wideS n wd).1 := by
  by_cases h2 : 2 ≤ wd ∧ wd ≤ 12 ∧ (if n < 0 then sh 256 n (wd.toNat - 1) = -1 else sh 256 n (wd.toNat - 1) = 0)
  · have e : wideS n wd = ((fld (wc8 n) (wd.toNat - 1) (wd.toNat - 1) false).set 0 (if n < 0 then 255 else 128), true) := if_pos h2
    rw [e]
    intro b hb
    rcases List.mem_or_eq_of_mem_set hb with h | h
    · exact fld_all _ (wc8_lt n) _ _ _ b h
    · subst h; split <;> omega
  · have e : wideS n wd = ([], false) := if_neg h2
    rw [e]; intro b hb; cases hb
theorem fieldS_all (n wd : Int) (b : Bool) : AllB (fieldS n wd b).1 := by
  unfold fieldS
  split
  · exact octS_all n wd
  · exact wideS_all n wd
theorem told_true (X : List Int) : told (X, true) = (X, true) := rfl
theorem told_false (X : List Int) : told (X, false) = ([], false) := rfl

set_option maxRecDepth 100000 in
set_option maxHeartbeats 4000000 in
theorem numFields_walk (n wd0 : Int) (b : Bool) (w : World) (hn : -9223372036854775808 ≤ n ∧ n ≤ 9223372036854775807) (hwd : -9223372036854775808 ≤ wd0 ∧ wd0 ≤ 9223372036854775807) (htab : Pow10 w) :
    Calls Tryd.prog 5 #[.int .i64 n, .int .i64 wd0, .bool b] w fun e w' => e = .returned (.bool true) ∧ Below w.heap.size w w' := by
  have HT := Lib.hid htab
  clear htab
  go_enter Tryd.func5, Tryd.ntmps5
  go_wp2
  go_loopw [1, 7] (fun v1 v7 wr => ∃ (i : Nat) (wd : Int), i ≤ 2 ∧ v1 = .int .i64 wd ∧ v7 = .int .i64 i ∧ Hid (Kept NoB w wr)) (fun _ v7 _ => 2 - (intOf v7).toNat)
  case atStart => exact ⟨0, wd0, by omega, rfl, rfl, Kept.refl _ _⟩
  case round =>
    obtain ⟨i, wd, hi, rfl, rfl, HK⟩ := hrel
    by_cases hi2 : i < 2
    · have hlt : (i : Int) < 2 := by omega
      have o1 := octal_any n wd wr hn
      rw [octS_told] at o1
      have o2 := fun W => rOctal_any n wd W hn
      have o3 := fun W => wide_any n wd W hn
      rw [wideS_told] at o3
      have o4 := fun W => rWide_any n wd W hn
      have o5 := fun W => field_any n wd b W hn
      have o6 := fun W => rField_any n wd b W hn
      have o7 := readS_field n hn wd b
      have o8 := fieldS_all n wd b
      generalize rOct n wd = o at o1 o2
      generalize rWide n wd = u at o3 o4
      generalize fieldS n wd b = f at o5 o6 o7 o8
      obtain ⟨X, p⟩ := o
      obtain ⟨Y, q⟩ := u
      obtain ⟨Z, r⟩ := f
      simp only at o2 o4 o5 o6 o7 o8
      have O1 := Lib.hid o1; have O2 := Lib.hid o2; have O3 := Lib.hid o3; have O4 := Lib.hid o4; have O5 := Lib.hid o5; have O6 := Lib.hid o6; have O7 := Lib.hid o7; have O8 := Lib.hid o8
      clear o1 o2 o3 o4 o5 o6 o7 o8 hn hwd
      cases p
      all_goals
        first | rw [told_true] at O1 | rw [told_false] at O1
        go_wp2_with fail
        refine O1.out.mono ?_
        rintro e w1 ⟨a1, c1, rfl, HR1, h01, hl1, hc1, hk1⟩
        have HK1 := Lib.hid (HK.out.trans hk1)
        clear hk1 O1
        go_wp2_with fail
        refine (O2.out _).mono ?_
        rintro e w2 ⟨rfl, hk2⟩
        have HR2 := Lib.hid (HR1.out.keptNo hk2)
        have HK2 := Lib.hid (HK1.out.trans hk2)
        have hcv := conv_reads HR2.out rfl h01.out
        clear hk2 O2 HR1 h01
        go_upto_region 8 with fail
        clear hcv
        cases q
        all_goals
          first | rw [told_true] at O3 | rw [told_false] at O3
          go_wp2_with fail
          refine (O3.out _).mono ?_
          rintro e w3 ⟨a3, c3, rfl, HR3, h03, hl3, hc3, hk3⟩
          have HK3 := Lib.hid (HK2.out.trans hk3)
          clear hk3 O3
          go_wp2_with fail
          refine (O4.out _).mono ?_
          rintro e w4 ⟨rfl, hk4⟩
          have HR4 := Lib.hid (HR3.out.keptNo hk4)
          have HK4 := Lib.hid (HK3.out.trans hk4)
          have hcv := conv_reads HR4.out rfl h03.out
          clear hk4 O4 HR3 h03
          go_upto_region 12 with fail
          clear hcv
          go_wp2_with fail
          refine (O5.out _).mono ?_
          rintro e w5 ⟨a5, c5, rfl, HR5, h05, hl5, hc5, hk5⟩
          have HK5 := Lib.hid (HK4.out.trans hk5)
          clear hk5 O5
          go_wp2_with fail
          refine (O6.out _).mono ?_
          rintro e w6 ⟨rfl, hk6⟩
          have HR6 := Lib.hid (HR5.out.keptNo hk6)
          have HK6 := Lib.hid (HK5.out.trans hk6)
          have hcv := conv_reads HR6.out rfl h05.out
          clear hk6 O6 HR5
          try simp only at hl5 HR6
          go_upto_region 16 with fail
          clear hcv
          cases r
          · go_wp2
            go_roundw
            case rel => exact ⟨i + 1, _, by omega, rfl, by go_num, HK6⟩
            case measure => simp [intOf]; omega
          · have hrd := read_told (s := (Z, true)) HR6.out O8.out hl5 hc5
            have h7 := O7.out rfl
            simp only [h7] at hrd
            have HRD := Lib.hid hrd
            clear hrd h7
            go_wp2_with fail
            refine HRD.out.mono ?_
            rintro e w7 ⟨rfl, rfl⟩
            go_wp2
            go_roundw
            case rel => exact ⟨i + 1, _, by omega, rfl, by go_num, HK6⟩
            case measure => simp [intOf]; omega
    · have hi' : i = 2 := by omega
      subst hi'
      have hAw := Lib.hid (awake16 wr (HT.out.keptNo HK.out))
      go_wp2_with fail
      refine hAw.out.mono ?_
      rintro e w6 ⟨rfl, hb6⟩
      have hfin := (HK.out.ofBelow hb6).belowNo (Below.refl _ _)
      go_wp2
      go_ret
      exact ⟨rfl, hfin⟩

theorem Arg.bool {w : World} {t : TypeId} {v : Value} (ht : Tryd.prog.underlying t = some .bool) (h : Arg w t v) : ∃ b, v = .bool b := by
  obtain ⟨⟨base, hv⟩, _⟩ := h
  exact Go.WideShapes.okWide_bool ht hv
theorem numFields_law (v0 v1 v2 : Value) (w : World) (r0 : Arg w 3 v0) (r1 : Arg w 3 v1) (r2 : Arg w 4 v2) (htab : Pow10 w) : Calls Tryd.prog 5 #[v0, v1, v2] w fun e w' => e = .returned (.bool true) ∧ Below w.heap.size w w' := by
  obtain ⟨a, rfl, ha⟩ := r0.int Tryd.underlying3
  obtain ⟨b, rfl, hb⟩ := r1.int Tryd.underlying3
  obtain ⟨c, rfl⟩ := r2.bool Tryd.underlying4
  exact numFields_walk a b c w (i64_bd ha) (i64_bd hb) htab
end Go.Proofs.YtligfngbmahdkaaDoor
