/-
  The document's own TimeText.
-/
import Derived.Test.YtclcgiochjibjaaDoorTextT
import Derived.Test.YtclcgiochjibjaaDoorTextP
namespace Go.Proofs.YtclcgiochjibjaaDoor
open Go.RowKit
set_option linter.unusedVariables false
set_option linter.unusedSimpArgs false

theorem itoa_str (u : Nat) : (⟨(Lib.itoa ((u : Nat) : Int)).toArray⟩ : ByteArray) = strB (Lib.decDigits u) := by rw [Lib.itoa_nonneg]; rfl
theorem strB_at (l : List UInt8) (i : Nat) (h : i < (strB l).size) : (strB l)[i] = l.getD i 0 := by
  have h2 : i < l.length := by rw [strB_size] at h; exact h
  have : l.getD i 0 = l[i] := by simp [List.getD, h2]
  rw [this]
  rfl

set_option maxRecDepth 20000 in
set_option maxHeartbeats 8000000 in
theorem rtext_any (ns : Int) (w : World) (h0 : -9223372036854775808 ≤ ns) (h1 : ns ≤ 9223372036854775807) :
    Calls Tryd.prog 17 #[.int .i64 ns] w fun e w' => e = .returned (.string (strB (textS ns))) ∧ w = w' := by
  obtain ⟨u, hu⟩ : ∃ u, u = ns.natAbs := ⟨_, rfl⟩
  obtain ⟨q, hq⟩ : ∃ q, q = u / 1000000000 := ⟨_, rfl⟩
  obtain ⟨r, hr⟩ : ∃ r, r = u % 1000000000 := ⟨_, rfl⟩
  have hu2 : u ≤ 9223372036854775808 := by omega
  have hq2 : q < 9223372037 := by omega
  have hr2 : r < 1000000000 := by omega
  obtain ⟨f1, f2, f3⟩ := frac r hr2
  have hfl : (Lib.decDigits (1000000000 + r)).length = 10 := dec_len 9 _ (by omega) (by omega)
  have hql : (Lib.decDigits q).length ≤ 20 := decDigits_len 20 q (by decide) (by omega)
  have hmt : magText u = if r = 0 then Lib.decDigits q else Lib.decDigits q ++ 46 :: Lib.trimRightB ((Lib.decDigits (1000000000 + r)).drop 1) 48 := by rw [hq, hr]; rfl
  obtain ⟨R1, hR1⟩ : ∃ R1, R1 = 1000000000 + r := ⟨_, rfl⟩
  rw [← hR1] at hfl hmt f1 f2 f3
  have hF1 := fun W => rDigits_any (q : Int) W (by omega) (by omega)
  rw [itoa_str] at hF1
  have hF2 := fun W => rDigits_any (R1 : Int) W (by omega) (by omega)
  rw [itoa_str] at hF2
  have HF1 := Lib.hid hF1; have HF2 := Lib.hid hF2
  clear hF1 hF2
  have hex : (strB (Lib.decDigits R1)).extract 1 10 = strB ((Lib.decDigits R1).drop 1) := by
    rw [strB_extract, List.take_of_length_le (by omega)]
  have hsf : (strB (Lib.decDigits R1)).size = 10 := by rw [strB_size, hfl]
  have hri1 : (r : Int) + 1000000000 = (R1 : Int) := by omega
  have hRb : R1 < 2000000000 := by omega
  generalize Lib.decDigits R1 = F at *
  generalize F.drop 1 = F9 at *
  have hne : r ≠ 0 → Lib.trimRightB F9 48 ≠ [] := fun h => trim_ne F9 (by omega)
  generalize Lib.decDigits q = D at *
  have htake : ∀ k, k < F9.length → Lib.trimRightB (F9.take (k + 1)) 48 = if F9.getD k 0 = 48 then Lib.trimRightB (F9.take k) 48 else F9.take (k + 1) := fun k hk => trim_take F9 k hk
  have hfull : F9.take 9 = F9 := List.take_of_length_le (by omega)
  have HTake := Lib.hid htake; have HFull := Lib.hid hfull; have HF9 := Lib.hid f1; have HNe := Lib.hid hne
  clear hR1 hfl f1 f2 f3 htake hfull hne
  have hqi : (u : Int) / 1000000000 = (q : Int) := by omega
  have hri : (u : Int) % 1000000000 = (r : Int) := by omega
  have hx2 : ∀ (sg X : List UInt8), (strB (sg ++ D) ++ ⟨#[46]⟩ : ByteArray) = strB (sg ++ D ++ [46]) ∧ strB (sg ++ D ++ [46]) ++ strB X = strB (sg ++ (D ++ 46 :: X)) := fun sg X => ⟨strB_app _ [46], by rw [strB_app]; congr 1; simp⟩
  have hsd := strB_size D
  -- both signs
  have main : ∀ (sg : List UInt8) (neg : Bool), (if neg = true then ns = -(u : Int) ∧ 0 < u ∧ sg = [45] else ns = (u : Int) ∧ sg = []) → textS ns = sg ++ magText u →
      Calls Tryd.prog 17 #[.int .i64 ns] w fun e w' => e = .returned (.string (strB (textS ns))) ∧ w = w' := by
    intro sg neg hsg htx
    rw [htx, hmt]
    obtain ⟨TX, hTX⟩ : ∃ TX, TX = strB (sg ++ if r = 0 then D else D ++ 46 :: Lib.trimRightB F9 48) := ⟨_, rfl⟩
    rw [← hTX]
    have HX2 := Lib.hid hx2
    have hz1 : (strB (sg ++ D)).size ≤ 30 := by
      rw [strB_size, List.length_append]
      cases neg with
      | true => rw [if_pos rfl] at hsg; rw [hsg.2.2]; simp; omega
      | false => rw [if_neg (by decide)] at hsg; rw [hsg.2]; simp; omega
    have hcat : (strB sg) ++ strB D = strB (sg ++ D) := strB_app sg D
    have HTX := Lib.hid hTX
    clear hmt htx hu hq hr hx2 hTX
    cases neg with
    | true =>
      rw [if_pos rfl] at hsg
      obtain ⟨rfl, hu0, rfl⟩ := hsg
      have hw1 : IntKind.u64.wrap (-(u : Int)) = 18446744073709551616 - (u : Int) := by rw [IntKind.wrap_u64]; omega
      have hw2 : IntKind.u64.wrap (-(18446744073709551616 - (u : Int))) = (u : Int) := by rw [IntKind.wrap_u64]; omega
      have hcat2 : (⟨#[45]⟩ : ByteArray) ++ strB D = strB ([45] ++ D) := hcat
      clear hcat
      obtain ⟨T1, hT1⟩ : ∃ T, T = strB ([45] ++ D) := ⟨_, rfl⟩
      rw [← hT1] at hcat2 hz1
      have HT1 := Lib.hid hT1
      clear hT1
      by_cases hr0 : r = 0
      · have hri0 : ((r : Int) == 0) = true := by simp; omega
        have HE : Hid (TX = T1) := Lib.hid (by rw [HTX.out, HT1.out, if_pos hr0])
        generalize strB D = DD at *
        go_enter Tryd.func17, Tryd.ntmps17
        go_wp2_with fail
        refine (HF1.out _).mono ?_
        rintro e w1 ⟨rfl, rfl⟩
        go_wp2
        go_ret
        exact ⟨by rw [HE.out]; rfl, rfl⟩
      · have hri0 : ((r : Int) == 0) = false := by simp; omega
        have HE : Hid (∀ k, Lib.trimRightB F9 48 = F9.take k → T1 ++ ⟨#[46]⟩ ++ strB (F9.take k) = TX) := Lib.hid (fun k hk => by
          rw [HTX.out, HT1.out, if_neg hr0, hk, (HX2.out [45] (F9.take k)).1, (HX2.out [45] (F9.take k)).2])
        have HNz := Lib.hid (HNe.out hr0)
        generalize strB D = DD at *
        clear hr0
        have hFz : (strB F9).size = 9 := by rw [strB_size]; exact HF9.out
        have HF99 : Hid (strB (F9.take 9) = strB F9) := Lib.hid (by rw [HFull.out])
        go_enter Tryd.func17, Tryd.ntmps17
        go_wp2_with fail
        refine (HF1.out _).mono ?_
        rintro e w1 ⟨rfl, rfl⟩
        go_wp2_with fail
        refine (HF2.out _).mono ?_
        rintro e w1 ⟨rfl, rfl⟩
        go_wp2
        go_loopw [6] (fun v6 wr => ∃ k : Nat, v6 = .string (strB (F9.take k)) ∧ k ≤ 9 ∧ Hid (Lib.trimRightB (F9.take k) 48 = Lib.trimRightB F9 48) ∧ w = wr) (fun v6 _ => szS v6)
        case atStart => exact ⟨9, by rw [HF99.out], by omega, by rw [HFull.out]; rfl, rfl⟩
        case round =>
          obtain ⟨k, rfl, hk, HI, rfl⟩ := hrel
          have hk0 : k ≠ 0 := fun e => by
            have := HI.out
            rw [e, List.take_zero] at this
            exact HNz.out this.symm
          obtain ⟨p, rfl⟩ : ∃ p, k = p + 1 := ⟨k - 1, by omega⟩
          have hp9 : p < F9.length := by have := HF9.out; omega
          have hI2 := HTake.out p hp9
          obtain ⟨S, hS⟩ : ∃ S, S = strB (F9.take (p + 1)) := ⟨_, rfl⟩
          have hSz : S.size = p + 1 := by rw [hS, strB_size, List.length_take]; omega
          have hlt : p < S.size := by omega
          have hat : (S[p]'hlt) = F9.getD p 0 := by
            subst hS
            rw [strB_at]
            simp [List.getD, List.getElem?_take]
          have hex2 : S.extract 0 p = strB (F9.take p) := by rw [hS, strB_extract]; simp [List.take_take, Nat.min_eq_left (Nat.le_succ p)]
          rw [← hS]
          by_cases h48 : F9.getD p 0 = 48
          · rw [if_pos h48] at hI2
            have hv : ((S[p]'hlt).toNat : Int) = 48 := by rw [hat, h48]; rfl
            have HI3 : Hid (Lib.trimRightB (F9.take p) 48 = Lib.trimRightB F9 48) := Lib.hid (by rw [← hI2]; exact HI.out)
            obtain ⟨S2, hS2⟩ : ∃ S2, S2 = strB (F9.take p) := ⟨_, rfl⟩
            rw [← hS2] at hex2
            have HS2 := Lib.hid hS2
            have HSz2 : Hid (S2.size = p) := Lib.hid (by rw [hS2, strB_size, List.length_take]; omega)
            clear h48 hI2 hS hat hp9 hS2 hk0
            go_wp2
            go_roundw
            case rel => exact ⟨p, by rw [HS2.out], by omega, HI3, trivial⟩
            case measure => simp [szS, HSz2.out, hSz]
          · rw [if_neg h48] at hI2
            have hv : ¬ ((S[p]'hlt).toNat : Int) = 48 := by
              rw [hat]
              intro e
              apply h48
              have : (F9.getD p 0).toNat = 48 := by omega
              exact UInt8.toNat_inj.1 (by rw [this]; rfl)
            have hfin := HE.out (p + 1) (by rw [← hI2]; exact HI.out.symm)
            rw [← hS] at hfin
            obtain ⟨T2, hT2⟩ : ∃ T2, T2 = T1 ++ ⟨#[46]⟩ := ⟨_, rfl⟩
            rw [← hT2] at hfin
            have hT3 := hT2.symm
            have hz2 : T2.size ≤ 31 := by rw [hT2, ByteArray.size_append]; show T1.size + 1 ≤ 31; omega
            clear h48 hI2 hS hat hp9 hk0 hT2 hex2
            go_wp2
            go_ret
            exact ⟨rfl, rfl⟩
    | false =>
      rw [if_neg (by decide)] at hsg
      obtain ⟨rfl, rfl⟩ := hsg
      have hw1 : IntKind.u64.wrap (u : Int) = (u : Int) := by rw [IntKind.wrap_u64]; omega
      have hcat2 : (⟨#[]⟩ : ByteArray) ++ strB D = strB ([] ++ D) := hcat
      clear hcat
      obtain ⟨T1, hT1⟩ : ∃ T, T = strB ([] ++ D) := ⟨_, rfl⟩
      rw [← hT1] at hcat2 hz1
      have HT1 := Lib.hid hT1
      clear hT1
      by_cases hr0 : r = 0
      · have hri0 : ((r : Int) == 0) = true := by simp; omega
        have HE : Hid (TX = T1) := Lib.hid (by rw [HTX.out, HT1.out, if_pos hr0])
        generalize strB D = DD at *
        go_enter Tryd.func17, Tryd.ntmps17
        go_wp2_with fail
        refine (HF1.out _).mono ?_
        rintro e w1 ⟨rfl, rfl⟩
        go_wp2
        go_ret
        exact ⟨by rw [HE.out]; rfl, rfl⟩
      · have hri0 : ((r : Int) == 0) = false := by simp; omega
        have HE : Hid (∀ k, Lib.trimRightB F9 48 = F9.take k → T1 ++ ⟨#[46]⟩ ++ strB (F9.take k) = TX) := Lib.hid (fun k hk => by
          rw [HTX.out, HT1.out, if_neg hr0, hk, (HX2.out [] (F9.take k)).1, (HX2.out [] (F9.take k)).2])
        have HNz := Lib.hid (HNe.out hr0)
        generalize strB D = DD at *
        clear hr0
        have hFz : (strB F9).size = 9 := by rw [strB_size]; exact HF9.out
        have HF99 : Hid (strB (F9.take 9) = strB F9) := Lib.hid (by rw [HFull.out])
        go_enter Tryd.func17, Tryd.ntmps17
        go_wp2_with fail
        refine (HF1.out _).mono ?_
        rintro e w1 ⟨rfl, rfl⟩
        go_wp2_with fail
        refine (HF2.out _).mono ?_
        rintro e w1 ⟨rfl, rfl⟩
        go_wp2
        go_loopw [6] (fun v6 wr => ∃ k : Nat, v6 = .string (strB (F9.take k)) ∧ k ≤ 9 ∧ Hid (Lib.trimRightB (F9.take k) 48 = Lib.trimRightB F9 48) ∧ w = wr) (fun v6 _ => szS v6)
        case atStart => exact ⟨9, by rw [HF99.out], by omega, by rw [HFull.out]; rfl, rfl⟩
        case round =>
          obtain ⟨k, rfl, hk, HI, rfl⟩ := hrel
          have hk0 : k ≠ 0 := fun e => by
            have := HI.out
            rw [e, List.take_zero] at this
            exact HNz.out this.symm
          obtain ⟨p, rfl⟩ : ∃ p, k = p + 1 := ⟨k - 1, by omega⟩
          have hp9 : p < F9.length := by have := HF9.out; omega
          have hI2 := HTake.out p hp9
          obtain ⟨S, hS⟩ : ∃ S, S = strB (F9.take (p + 1)) := ⟨_, rfl⟩
          have hSz : S.size = p + 1 := by rw [hS, strB_size, List.length_take]; omega
          have hlt : p < S.size := by omega
          have hat : (S[p]'hlt) = F9.getD p 0 := by
            subst hS
            rw [strB_at]
            simp [List.getD, List.getElem?_take]
          have hex2 : S.extract 0 p = strB (F9.take p) := by rw [hS, strB_extract]; simp [List.take_take, Nat.min_eq_left (Nat.le_succ p)]
          rw [← hS]
          by_cases h48 : F9.getD p 0 = 48
          · rw [if_pos h48] at hI2
            have hv : ((S[p]'hlt).toNat : Int) = 48 := by rw [hat, h48]; rfl
            have HI3 : Hid (Lib.trimRightB (F9.take p) 48 = Lib.trimRightB F9 48) := Lib.hid (by rw [← hI2]; exact HI.out)
            obtain ⟨S2, hS2⟩ : ∃ S2, S2 = strB (F9.take p) := ⟨_, rfl⟩
            rw [← hS2] at hex2
            have HS2 := Lib.hid hS2
            have HSz2 : Hid (S2.size = p) := Lib.hid (by rw [hS2, strB_size, List.length_take]; omega)
            clear h48 hI2 hS hat hp9 hS2 hk0
            go_wp2
            go_roundw
            case rel => exact ⟨p, by rw [HS2.out], by omega, HI3, trivial⟩
            case measure => simp [szS, HSz2.out, hSz]
          · rw [if_neg h48] at hI2
            have hv : ¬ ((S[p]'hlt).toNat : Int) = 48 := by
              rw [hat]
              intro e
              apply h48
              have : (F9.getD p 0).toNat = 48 := by omega
              exact UInt8.toNat_inj.1 (by rw [this]; rfl)
            have hfin := HE.out (p + 1) (by rw [← hI2]; exact HI.out.symm)
            rw [← hS] at hfin
            obtain ⟨T2, hT2⟩ : ∃ T2, T2 = T1 ++ ⟨#[46]⟩ := ⟨_, rfl⟩
            rw [← hT2] at hfin
            have hT3 := hT2.symm
            have hz2 : T2.size ≤ 31 := by rw [hT2, ByteArray.size_append]; show T1.size + 1 ≤ 31; omega
            clear h48 hI2 hS hat hp9 hk0 hT2 hex2
            go_wp2
            go_ret
            exact ⟨rfl, rfl⟩
  rcases text_cases ns with ⟨hn, htx⟩ | ⟨hn, htx⟩
  · exact main [45] true (by rw [if_pos rfl]; exact ⟨by omega, by omega, rfl⟩) (by rw [htx, hu])
  · exact main [] false (by rw [if_neg (by decide)]; exact ⟨by omega, rfl⟩) (by rw [htx, hu]; rfl)
end Go.Proofs.YtclcgiochjibjaaDoor
