/-
  pax.TimeText.
-/
import Derived.Test.YtclcgiochjibjaaGreatDoorTimeT
namespace Go.Proofs.YtclcgiochjibjaaGreatDoor
open Go.RowKit
set_option linter.unusedVariables false
set_option linter.unusedSimpArgs false

theorem text_cases (ns : Int) : ((ns < 0 ∧ textS ns = [45] ++ magText ns.natAbs) ∨ (¬ ns < 0 ∧ textS ns = magText ns.natAbs)) := by
  unfold textS
  by_cases h : ns < 0
  · exact .inl ⟨h, by rw [if_pos h]⟩
  · exact .inr ⟨h, by rw [if_neg h]; rfl⟩
theorem text_len (ns : Int) (h0 : -9223372036854775808 ≤ ns) (h1 : ns ≤ 9223372036854775807) : 1 ≤ (textS ns).length ∧ (textS ns).length ≤ 40 := by
  have hm : ∀ u, u ≤ 9223372036854775808 → 1 ≤ (magText u).length ∧ (magText u).length ≤ 35 := fun u hu => by
    have a := decDigits_len 19 (u / 1000000000) (by decide) (by omega)
    have b := decDigits_ne (u / 1000000000)
    have c : 1 ≤ (Lib.decDigits (u / 1000000000)).length := by
      cases hd : Lib.decDigits (u / 1000000000) with
      | nil => exact absurd hd b
      | cons _ _ => simp
    unfold magText
    split
    · omega
    · have f := (frac (u % 1000000000) (by omega)).1
      have hp := congrArg List.length (trim_pad ((Lib.decDigits (1000000000 + u % 1000000000)).drop 1) 48)
      rw [List.length_append, f] at hp
      rw [List.length_append, List.length_cons]
      omega
  have := hm ns.natAbs (by omega)
  rcases text_cases ns with ⟨_, h⟩ | ⟨_, h⟩ <;> rw [h]
  · rw [List.length_append]; simp; omega
  · omega

set_option maxRecDepth 20000 in
set_option maxHeartbeats 8000000 in
theorem text_any (ns : Int) (w : World) (h0 : -9223372036854775808 ≤ ns) (h1 : ns ≤ 9223372036854775807) (htab : Pow10 w) :
    Calls Tryz.prog 12 #[.int .i64 ns] w fun e w' => e = .returned (.string (strB (textS ns))) ∧ Kept NoB w w' := by
  have HT := Lib.hid htab
  obtain ⟨u, hu⟩ : ∃ u, u = ns.natAbs := ⟨_, rfl⟩
  obtain ⟨q, hq⟩ : ∃ q, q = u / 1000000000 := ⟨_, rfl⟩
  obtain ⟨r, hr⟩ : ∃ r, r = u % 1000000000 := ⟨_, rfl⟩
  have hu2 : u ≤ 9223372036854775808 := by omega
  have hq2 : q < 18446744073709551616 := by omega
  have hr2 : r < 1000000000 := by omega
  obtain ⟨f1, f2, f3⟩ := frac r hr2
  have hfl : (Lib.decDigits (1000000000 + r)).length = 10 := dec_len 9 _ (by omega) (by omega)
  have hql : (Lib.decDigits q).length ≤ 20 := decDigits_len 20 q (by decide) (by omega)
  have hmt : magText u = if r = 0 then Lib.decDigits q else Lib.decDigits q ++ 46 :: Lib.trimRightB ((Lib.decDigits (1000000000 + r)).drop 1) 48 := by rw [hq, hr]; rfl
  have htl : (Lib.trimRightB ((Lib.decDigits (1000000000 + r)).drop 1) 48).length ≤ 9 := by
    have hp := congrArg List.length (trim_pad ((Lib.decDigits (1000000000 + r)).drop 1) 48)
    rw [List.length_append, f1] at hp
    omega
  have HF1 := Lib.hid (fun W (h : Pow10 W) => fmtU_any q hq2 W h)
  have HF2 := Lib.hid (fun W (h : Pow10 W) => fmtU_any (1000000000 + r) (by omega) W h)
  have hTr := fun W => Tryz.strings_TrimRight_one (strB ((Lib.decDigits (1000000000 + r)).drop 1)) 48 (by decide) W (by rw [strB_size]; omega)
  have hTr2 : ∀ W, Calls Tryz.prog 28 #[.string (strB ((Lib.decDigits (1000000000 + r)).drop 1)), .string ⟨#[48]⟩] W fun e w' => e = .returned (.string (strB (Lib.trimRightB ((Lib.decDigits (1000000000 + r)).drop 1) 48))) ∧ w' = W := hTr
  have hex : (strB (Lib.decDigits (1000000000 + r))).extract 1 10 = strB ((Lib.decDigits (1000000000 + r)).drop 1) := by
    rw [strB_extract, List.take_of_length_le (by omega)]
  have hsf : (strB (Lib.decDigits (1000000000 + r))).size = 10 := by rw [strB_size, hfl]
  generalize Lib.decDigits (1000000000 + r) = F at *
  generalize F.drop 1 = F9 at *
  generalize Lib.trimRightB F9 48 = X at *
  generalize Lib.decDigits q = D at *
  have HTr := Lib.hid hTr2
  clear hTr hTr2 f1 f2 f3 hfl
  have hqi : (u : Int) / 1000000000 = (q : Int) := by omega
  have hri : (u : Int) % 1000000000 = (r : Int) := by omega
  have hwr : IntKind.u64.wrap (1000000000 + (r : Int)) = ((1000000000 + r : Nat) : Int) := by rw [IntKind.wrap_u64]; omega
  generalize hR1 : (1000000000 + r : Nat) = R1 at *
  have hx2 : ∀ (sg : List UInt8) (W : World), sg.length ≤ 1 → (strB (sg ++ D) ++ ⟨#[46]⟩ : ByteArray) = strB (sg ++ D ++ [46]) ∧ strB (sg ++ D ++ [46]) ++ strB X = strB (sg ++ (D ++ 46 :: X)) := fun sg W _ => ⟨strB_app _ [46], by rw [strB_app]; congr 1; simp⟩
  have hsd := strB_size D
  have hsx := strB_size X
  rcases text_cases ns with ⟨hn, htx⟩ | ⟨hn, htx⟩
  · rw [htx, ← hu, hmt]
    have hcat : (⟨#[45]⟩ : ByteArray) ++ strB D = strB ([45] ++ D) := ByteArray.mk_append_mk [45] D
    obtain ⟨hc1, hc2⟩ := hx2 [45] w (by decide)
    have hnu : ns = -(u : Int) := by omega
    subst hnu
    have hu1 : 0 < u := by omega
    have hw1 : IntKind.u64.wrap (-(u : Int)) = 18446744073709551616 - (u : Int) := by rw [IntKind.wrap_u64]; omega
    have hw2 : IntKind.u64.wrap (-(18446744073709551616 - (u : Int))) = (u : Int) := by rw [IntKind.wrap_u64]; omega
    have hz1 : (strB ([45] ++ D)).size = 1 + D.length := by rw [strB_size]; simp; omega
    have hz2 : (strB ([45] ++ D ++ [46])).size = 2 + D.length := by rw [strB_size]; simp; omega
    by_cases hr0 : r = 0
    · rw [if_pos hr0]
      have hri0 : ((r : Int) == 0) = true := by simp; omega
      generalize strB ([45] ++ D) = T1 at *
      generalize strB D = DD at *
      generalize strB F9 = FF9 at *
      clear hmt htx hu hq hr hR1 hx2 hc1 hc2 hz2
      have HF1' := HF1
      go_enter Tryz.func12, Tryz.ntmps12
      go_wp2_with fail
      refine (HF1.out _ HT.out).mono ?_
      rintro e w1 ⟨rfl, hk1⟩
      have HK1 := Lib.hid hk1
      clear hk1
      go_wp2
      go_ret
      exact ⟨rfl, HK1.out⟩
    · rw [if_neg hr0]
      have hri0 : ((r : Int) == 0) = false := by simp; omega
      generalize strB ([45] ++ (D ++ 46 :: X)) = TX at *
      generalize strB ([45] ++ D ++ [46]) = T2 at *
      generalize strB ([45] ++ D) = T1 at *
      generalize strB D = DD at *
      generalize strB F9 = FF9 at *
      generalize strB X = XX at *
      generalize strB F = FF at *
      clear hmt htx hu hq hr hx2
      go_enter Tryz.func12, Tryz.ntmps12
      go_wp2_with fail
      refine (HF1.out _ HT.out).mono ?_
      rintro e w1 ⟨rfl, hk1⟩
      have HK1 := Lib.hid hk1
      clear hk1
      go_wp2_with fail
      refine (HF2.out _ (HT.out.keptNo HK1.out)).mono ?_
      rintro e w2 ⟨rfl, hk2⟩
      have HK2 := Lib.hid (HK1.out.trans hk2)
      clear hk2
      go_wp2_with fail
      refine (HTr.out _).mono ?_
      rintro e w3 ⟨rfl, hw3⟩
      rw [hw3]
      clear hw3
      go_wp2
      go_ret
      exact ⟨rfl, HK2.out⟩
  · rw [htx, ← hu, hmt]
    have hcat : (⟨#[]⟩ : ByteArray) ++ strB D = strB ([] ++ D) := ByteArray.mk_append_mk [] D
    obtain ⟨hc1, hc2⟩ := hx2 [] w (by decide)
    rw [List.nil_append] at hcat hc1 hc2
    rw [List.nil_append] at hc2
    have hnu : ns = (u : Int) := by omega
    subst hnu
    have hw1 : IntKind.u64.wrap (u : Int) = (u : Int) := by rw [IntKind.wrap_u64]; omega
    have hz2 : (strB (D ++ [46])).size = 1 + D.length := by rw [strB_size]; simp; omega
    by_cases hr0 : r = 0
    · rw [if_pos hr0]
      have hri0 : ((r : Int) == 0) = true := by simp; omega
      generalize strB D = DD at *
      generalize strB F9 = FF9 at *
      clear hmt htx hu hq hr hR1 hx2 hc1 hc2 hz2
      go_enter Tryz.func12, Tryz.ntmps12
      go_wp2_with fail
      refine (HF1.out _ HT.out).mono ?_
      rintro e w1 ⟨rfl, hk1⟩
      have HK1 := Lib.hid hk1
      clear hk1
      go_wp2
      go_ret
      exact ⟨rfl, HK1.out⟩
    · rw [if_neg hr0]
      have hri0 : ((r : Int) == 0) = false := by simp; omega
      generalize strB (D ++ 46 :: X) = TX at *
      generalize strB (D ++ [46]) = T2 at *
      generalize strB D = DD at *
      generalize strB F9 = FF9 at *
      generalize strB X = XX at *
      generalize strB F = FF at *
      clear hmt htx hu hq hr hx2
      go_enter Tryz.func12, Tryz.ntmps12
      go_wp2_with fail
      refine (HF1.out _ HT.out).mono ?_
      rintro e w1 ⟨rfl, hk1⟩
      have HK1 := Lib.hid hk1
      clear hk1
      go_wp2_with fail
      refine (HF2.out _ (HT.out.keptNo HK1.out)).mono ?_
      rintro e w2 ⟨rfl, hk2⟩
      have HK2 := Lib.hid (HK1.out.trans hk2)
      clear hk2
      go_wp2_with fail
      refine (HTr.out _).mono ?_
      rintro e w3 ⟨rfl, hw3⟩
      rw [hw3]
      clear hw3
      go_wp2
      go_ret
      exact ⟨rfl, HK2.out⟩
end Go.Proofs.YtclcgiochjibjaaGreatDoor
