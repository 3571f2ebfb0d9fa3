/-
  MatchBack: tokens of any bytes, at any level, are expanded to these; each may be; no level tells more of them than there are bytes.
-/
import Derived.Test.YtifoldonmmobpaaDoorMatX
import Derived.Test.YtifoldonmmobpaaDoorMatR
import Derived.Test.YtifoldonmmobpaaDoorRowA
namespace Go.Proofs.YtifoldonmmobpaaDoor
open Go.RowKit
set_option linter.unusedVariables false
set_option linter.unusedSimpArgs false

set_option maxRecDepth 20000 in
set_option maxHeartbeats 8000000 in
theorem matchBack_walk (bo : Option Addr) (bl cb : Nat) (B : List UInt8) (lo : Option Addr) (nl cl : Nat) (zs : List Int) (lv : Int) (w : World) (hB : RowA w bo bl cb B) (hl : RdI w w.heap.size lo zs) (hnl : nl = zs.length) (hlc : nl ≤ cl) (hcm : cl ≤ maxLen) (hlv : -9223372036854775808 ≤ lv ∧ lv ≤ 9223372036854775807) (hT : DeB w) :
    Calls Tryd.prog 6 #[.slice bo bl cb, .slice lo nl cl, .int .i64 lv] w fun e w' => e = .returned (.bool true) ∧ Below w.heap.size w w' := by
  have HRw := Lib.hid (rows7_any bo bl cb B lo nl cl zs w hB.len hB.rd hB.nil hB.cap hB.max hl hnl hlc hcm)
  have HAw : Hid (∀ W, Kept NoB w W → Calls Tryd.prog 8 #[] W fun e w' => e = .returned (.bool true) ∧ Kept NoB W w') := Lib.hid (fun W hk => awake7 W (hT.kept hk))
  have HT := Lib.hid hT
  clear hB hl hnl hlc hcm hT
  go_enter Tryd.func6, Tryd.ntmps6
  by_cases h100 : (100 : Int) < (bl : Int)
  · have HA := Lib.hid (HAw.out w (Kept.refl _ _))
    go_wp2_with fail
    with_reducible refine HA.out.mono ?_
    rintro e w1 ⟨rfl, hk1⟩
    have hb1 : Below w.heap.size w w1 := hk1.belowNo (Below.refl _ _)
    clear hk1
    go_wp2
    go_ret
    exact ⟨rfl, hb1⟩
  · go_wp2_with fail
    with_reducible refine HRw.out.mono ?_
    rintro e w1 ⟨L, a, m, c, rfl, hm, hS⟩
    have HA := Lib.hid hS.rowA
    have HK1 := Lib.hid hS.kept
    have hcm : c ≤ 9223372036854775807 := by have := hS.cap.2.1; unfold maxLen at this; omega
    have HLn := Lib.hid hS.len
    obtain ⟨TS, hTS⟩ : ∃ TS, TS = restT lv L 0 := ⟨_, rfl⟩
    obtain ⟨t, ht⟩ : ∃ t, t = TS.length := ⟨_, rfl⟩
    have htl := rest_len lv L L.length 0 (by omega) (by omega)
    have hrow : lv < 1 → t = m := fun h => by
      rw [ht, hTS, rest_low lv L h L.length 0 (by omega), List.drop_zero, List.length_map, HLn.out]
    have hex := exp_rest lv L (by have := HLn.out; omega) L.length 0 0 (by omega) (by omega)
    rw [List.take_zero, ← hTS, ← ht, Nat.zero_add, ← HLn.out] at hex
    have HTo := Lib.hid (tokens_all a m c lv L w1 HA.out.row HA.out.len (by omega) HA.out.cap hcm (HT.out.kept HK1.out) hlv)
    rw [← hTS, ← ht] at HTo
    rw [← hTS, ← ht, ← HLn.out] at htl
    have HTl := Lib.hid ht; have HEx := Lib.hid hex
    clear hS hTS ht hex
    have htm : t ≤ m := by omega
    clear htl
    go_wp2_with fail
    with_reducible refine HTo.out.mono ?_
    rintro e w2 ⟨ta, tc, rfl, hts, hk2⟩
    have HTs := Lib.hid hts.reads
    have HK2 := Lib.hid (HK1.out.trans hk2)
    have HA2 := Lib.hid (HA.out.on hk2)
    have hxp := expand_any ta tc t TS (m : Int) w2 HTl.out.symm HTs.out HEx.out.1 (by omega) (by omega)
    rw [HEx.out.2] at hxp
    obtain ⟨yn, hyn⟩ : ∃ yn, yn = (nb L).length := ⟨_, rfl⟩
    simp only at hxp
    rw [← hyn] at hxp
    have HXp := Lib.hid hxp; have HYn := Lib.hid hyn
    clear hts hk2 HTo hxp hyn HA
    go_wp2_with fail
    with_reducible refine HXp.out.mono ?_
    rintro e w3 ⟨ya, yc, rfl, hM⟩
    have HM := hM
    have HK3 := Lib.hid (HK2.out.trans HM.out.2.2)
    have HA3 := Lib.hid (HA2.out.on HM.out.2.2)
    obtain ⟨S, hS⟩ : ∃ S : ByteArray, S = ⟨L.toArray⟩ := ⟨_, rfl⟩
    have hcx : (convert 22 9 (.slice a m c)).run Tryd.prog w3 = .ok (.string S) w3 := by rw [HA3.out.conv, hS]
    have hcy : (convert 22 9 (.slice ya yn yc)).run Tryd.prog w3 = .ok (.string S) w3 := by
      rw [conv_reads HM.out.reads HYn.out (own_nil HM.out.1), nb, strOf_bytesM, hS]
    have htt : ((t : Int) != (t : Int)) = false := by simp
    have hle : ¬ (m : Int) < (t : Int) := by omega
    have HA := Lib.hid (HAw.out w3 HK3.out)
    clear hM HM hS HXp
    by_cases h1 : 1 ≤ lv
    · have hd1 : decide (1 ≤ lv) = true := decide_eq_true h1
      clear hrow
      go_wp2_with fail
      with_reducible refine HA.out.mono ?_
      rintro e w4 ⟨rfl, hk4⟩
      have hb4 : Below w.heap.size w w4 := (HK3.out.trans hk4).belowNo (Below.refl _ _)
      clear hk4
      go_wp2
      go_ret
      exact ⟨rfl, hb4⟩
    · have hd1 : decide (1 ≤ lv) = false := decide_eq_false h1
      have hre := hrow (by omega)
      have g1 : ((t : Int) == (m : Int)) = true := by rw [hre]; simp
      clear hrow hre
      go_wp2_with fail
      with_reducible refine HA.out.mono ?_
      rintro e w4 ⟨rfl, hk4⟩
      have hb4 : Below w.heap.size w w4 := (HK3.out.trans hk4).belowNo (Below.refl _ _)
      clear hk4
      go_wp2
      go_ret
      exact ⟨rfl, hb4⟩
theorem matchBack_law (v0 v1 v2 : Value) (w : World) (r0 : Arg w 22 v0) (r1 : Arg w 29 v1) (r2 : Arg w 3 v2) (hT : DeB w) :
    Calls Tryd.prog 6 #[v0, v1, v2] w fun e w' => e = .returned (.bool true) ∧ Below w.heap.size w w' := by
  obtain ⟨bo, cb, bs, rfl, hc, hm, hr, hb, h0⟩ := r0.bytes Tryd.underlying22
  obtain ⟨lo, cl, zs, rfl, hlc, hlm, hrl, _, _⟩ := r1.ints
  obtain ⟨x, rfl, hx⟩ := r2.int Tryd.underlying3
  exact matchBack_walk bo bs.length cb (un bs) lo zs.length cl zs x w ⟨by simp [un], by rw [nb_un hb]; exact hr, hc, hm, h0⟩ hrl rfl hlc hlm (i64_bd hx) hT
end Go.Proofs.YtifoldonmmobpaaDoor
