/-
  fits: lengths such as the document asks for.
-/
import Derived.Test.YtngllecfhkgckaaLeastD
namespace Go.Proofs.Ytngllecfhkgckaa
open Go.RowKit
set_option linter.unusedVariables false
set_option linter.unusedSimpArgs false

theorem leaves_left (ws : List Int) (i c : Nat) (hi : i < ws.length) (h : c + (leavesL i (ws.drop i)).length = (leavesL 0 ws).length) :
    (if 0 < ws.getD i 0 then c + 1 else c) + (leavesL (i + 1) (ws.drop (i + 1))).length = (leavesL 0 ws).length := by
  rw [leavesL_step ws i hi] at h
  split
  · rename_i hz; rw [if_pos hz] at h; simp at h; omega
  · rename_i hz; rw [if_neg hz] at h; exact h

set_option maxRecDepth 20000 in
set_option maxHeartbeats 4000000 in
theorem fits_calls (ao bo : Option Addr) (ca cb B C : Nat) (ws Z : List Int) (k : Nat) (lv : List Lf) (w : World) (hx : RdI w B ao ws) (hy : RdI w C bo Z) (hok : LensOkP ws (k : Int)) (hs : SrtP lv (leavesL 0 ws)) (hF : LensF ws lv k Z) :
    Calls Try.prog 12 #[.slice ao ws.length ca, .slice bo Z.length cb, .int .i64 (k : Int)] w fun e w' => e = .returned (.bool true) ∧ Kept NoB w w' := by
  have HX := Lib.hid hx; have HY := Lib.hid hy; have HOk := Lib.hid hok; have HS := Lib.hid hs; have HF := Lib.hid hF
  have hk1 : 1 ≤ k ∧ k ≤ 15 := by have := hok.lim; omega
  obtain ⟨n, hn⟩ : ∃ n, n = ws.length := ⟨_, rfl⟩
  have hn3 : n ≤ 320 := by rw [hn]; exact hok.len
  have hn2 : Z.length = n := by rw [hn]; exact hF.len
  have HN := Lib.hid hn; have HN2 := Lib.hid hn2
  rw [← hn, hn2]
  clear hx hy hn hn2 hok hs hF
  go_enter Try.func12, Try.ntmps12
  go_wp2
  go_loopw [9, 7, 8] (fun v9 v7 v8 wr => ∃ (i c : Nat) (s : Int), v9 = .int .i64 (i : Int) ∧ v7 = .int .i64 (c : Int) ∧ v8 = .int .i64 s ∧ i ≤ n ∧ c ≤ i ∧ (0 ≤ s ∧ s ≤ 15000000 * (i : Int)) ∧ Hid (c + (leavesL i (ws.drop i)).length = (leavesL 0 ws).length) ∧ Hid (s + costL (ws.drop i) (Z.drop i) = costL ws Z) ∧ Hid (Kept NoB w wr)) (fun v9 _ _ _ => n - (intOf v9).toNat)
  case atStart => exact ⟨0, 0, 0, rfl, rfl, rfl, by omega, by omega, by omega, Lib.hid (by simp), Lib.hid (by simp), Lib.hid (Kept.refl _ _)⟩
  case round =>
    obtain ⟨i, c, s, rfl, rfl, rfl, hi, hc, hsb, HC, HCo, HK⟩ := hrel
    by_cases hlt : (i : Int) < n
    · have hin : i < ws.length := by have := HN.out; omega
      have hiz : i < Z.length := by have := HN2.out; omega
      obtain ⟨g, off, rfl, _, hc0⟩ := HX.out i hin
      obtain ⟨g', off', rfl, _, hc1⟩ := HY.out i hiz
      have hcA := HK.out.cell hc0
      have hcB := HK.out.cell hc1
      have h1 := leaves_left ws i c hin HC.out
      have h2 := HCo.out
      rw [cost_step ws Z i hin hiz] at h2
      have hxb := HOk.out.small.getD i hin
      have hyb := HF.out.bd i hin
      have hxy := HF.out.pos i hin
      obtain ⟨x, hx⟩ : ∃ x, x = ws.getD i 0 := ⟨_, rfl⟩
      obtain ⟨y, hy⟩ : ∃ y, y = Z.getD i 0 := ⟨_, rfl⟩
      rw [← hx] at hcA h1 h2 hxb hxy
      rw [← hy] at hcB h2 hyb hxy
      clear hx hy hc0 hc1 HC HCo
      have hm1 : 0 ≤ x * y := Int.mul_nonneg hxb.1 hyb.1
      have hm2 : x * y ≤ 1000000 * 15 := Int.mul_le_mul hxb.2 (by omega) hyb.1 (by omega)
      obtain ⟨p, hp⟩ : ∃ p, p = x * y := ⟨_, rfl⟩
      rw [← hp] at hm1 hm2 h2
      have e1 : IntKind.i64.wrap (x * y) = p := by rw [hp]; exact IntWalk.i64_in _ (by omega)
      have e2 : IntKind.i64.wrap (s + p) = s + p := IntWalk.i64_in _ (by omega)
      have hy0 : ¬ y < 0 := by omega
      have hyk : ¬ (k : Int) < y := by omega
      by_cases hx0 : 0 < x
      · rw [if_pos hx0] at h1
        have hyp := hxy.1 hx0
        have HC := Lib.hid h1; have HCo := Lib.hid h2
        clear h1 h2 hxy hp
        go_upto_region 7 with fail
        go_quiet (fail)
        have HK1 := Lib.hid (HK.out.drewN nq)
        have hcA1 := ((Kept.refl NoB wr).drewN nq).cell hcA
        have hcB1 := ((Kept.refl NoB wr).drewN nq).cell hcB
        go_upto_region 11 with fail
        go_quiet (fail)
        go_wp2
        go_roundw
        case rel => exact ⟨i + 1, c + 1, s + p, by go_num, by go_num, rfl, by omega, by omega, by omega, HC, Lib.hid (by have := HCo.out; omega), Lib.hid (HK.out.drewN _)⟩
        case measure => simp [intOf]; omega
      · rw [if_neg hx0] at h1
        have hyp : ¬ 0 < y := fun h => hx0 (hxy.2 h)
        have HC := Lib.hid h1; have HCo := Lib.hid h2
        clear h1 h2 hxy hp
        go_upto_region 7 with fail
        go_quiet (fail)
        have HK1 := Lib.hid (HK.out.drewN nq)
        have hcA1 := ((Kept.refl NoB wr).drewN nq).cell hcA
        have hcB1 := ((Kept.refl NoB wr).drewN nq).cell hcB
        go_upto_region 11 with fail
        go_quiet (fail)
        go_wp2
        go_roundw
        case rel => exact ⟨i + 1, c, s + p, by go_num, rfl, rfl, by omega, by omega, by omega, HC, Lib.hid (by have := HCo.out; omega), Lib.hid (HK.out.drewN _)⟩
        case measure => simp [intOf]; omega
    · have hcl : c = lv.length := by
        have := HC.out
        rw [leavesL_end ws i (by have := HN.out; omega)] at this
        rw [HS.out.len]; simpa using this
      have hsc : costL ws Z = s := by
        have := HCo.out
        rw [cost_end ws Z i (.inl (by have := HN.out; omega))] at this
        omega
      have hkr := HF.out.kraft
      rw [← hcl] at hkr
      have hz15 : ∀ z ∈ Z, 0 ≤ z ∧ z ≤ 15 := by
        intro z hz
        obtain ⟨t, ht, rfl⟩ := List.mem_iff_getElem.1 hz
        have := HF.out.bd t (by have := HN.out; have := HN2.out; omega)
        simp only [List.getD, ht, List.getElem?_eq_getElem, Option.getD_some] at this
        omega
      obtain ⟨K, hK⟩ : ∃ K, K = kraftL Z := ⟨_, rfl⟩
      rw [← hK] at hkr
      have hc1 : ∀ W, Kept NoB w W → Calls Try.prog 13 #[.slice bo n cb] W fun e w' => e = .returned (.tuple #[.int .i64 K, .int .i64 32768]) ∧ Kept NoB W w' := by
        intro W hk
        have := kraft_calls bo cb C Z W (HY.out.keptNo hk) (fun z hz => by have := hz15 z hz; omega) (by have := HN2.out; omega)
        rw [HN2.out, ← hK] at this
        exact this
      have hc2 : ∀ W, Kept NoB w W → Calls Try.prog 14 #[.slice bo n cb] W fun e w' => e = .returned (.int .i64 K) ∧ Kept NoB W w' := by
        intro W hk
        have := rkraft_calls bo cb C Z W (HY.out.keptNo hk) (fun z hz => by have := hz15 z hz; omega) (by have := HN2.out; omega)
        rw [HN2.out, ← hK] at this
        exact this
      have hc3 : ∀ W, Kept NoB w W → Calls Try.prog 17 #[.slice ao n ca, .int .i64 (k : Int)] W fun e w' => e = .returned (.int .i64 s) ∧ Kept NoB W w' := by
        intro W hk
        have := least_calls ao ca B ws k W (HX.out.keptNo hk) HOk.out
        rw [← HN.out] at this
        refine this.mono ?_
        rintro e w' ⟨ls, h1, h2, h3, h4⟩
        have e1 : ls = lv.map (·.2) := srd_unique h1 (srd_of HS.out.srt) (h2.trans (by rw [← pos_leaves ws 0]; exact (HS.out.perm.map _).symm))
        exact ⟨by rw [h3, e1, ← HF.out.cost, hsc], h4⟩
      have hc4 : ∀ W, Kept NoB w W → Calls Try.prog 10 #[.slice ao n ca, .slice bo n cb] W fun e w' => e = .returned (.int .i64 s) ∧ Kept NoB W w' := by
        intro W hk
        have := cost_calls ao bo ca cb B C ws Z W (HX.out.keptNo hk) (HY.out.keptNo hk) (fun z hz => by have := HOk.out.small z hz; omega) (fun z hz => by have := hz15 z hz; omega) (by have := HN.out; omega) (by have := HN2.out; omega)
        rw [← HN.out, HN2.out, hsc] at this
        exact this
      have H1 := Lib.hid hc1; have H2 := Lib.hid hc2; have H3 := Lib.hid hc3; have H4 := Lib.hid hc4
      clear hc1 hc2 hc3 hc4 hcl hsc hz15 hK HC HCo
      have hcs : (c = 0 ∧ K = 0) ∨ (c = 1 ∧ K = 16384) ∨ ((1 < (c : Int) ∧ ((c : Int) == 1) = false ∧ ((c : Int) == 0) = false) ∧ K = 32768) := by
        by_cases h0 : c = 0
        · exact .inl ⟨h0, by rw [hkr, if_pos h0]⟩
        · by_cases h1 : c = 1
          · exact .inr (.inl ⟨h1, by rw [hkr, if_neg h0, if_pos h1]⟩)
          · exact .inr (.inr ⟨⟨by omega, by simp; omega, by simp; omega⟩, by rw [hkr, if_neg h0, if_neg h1]⟩)
      clear hkr
      rcases hcs with ⟨rfl, rfl⟩ | ⟨rfl, rfl⟩ | ⟨⟨q1, q2, q3⟩, rfl⟩
      all_goals
        go_wp2_with fail
        refine (H1.out _ HK.out).mono ?_
        rintro e w1 ⟨rfl, hk⟩
        have HK1 := Lib.hid (HK.out.trans hk)
        clear hk
        go_wp2_with fail
        refine (H2.out _ HK1.out).mono ?_
        rintro e w2 ⟨rfl, hk⟩
        have HK2 := Lib.hid (HK1.out.trans hk)
        clear hk
        go_wp2_with fail
        refine (H3.out _ HK2.out).mono ?_
        rintro e w3 ⟨rfl, hk⟩
        have HK3 := Lib.hid (HK2.out.trans hk)
        clear hk
        go_wp2_with fail
        refine (H4.out _ HK3.out).mono ?_
        rintro e w4 ⟨rfl, hk⟩
        have HK4 := Lib.hid (HK3.out.trans hk)
        clear hk
        go_wp2
        go_ret
        exact ⟨by first | rfl | simp, HK4.out⟩
end Go.Proofs.Ytngllecfhkgckaa
