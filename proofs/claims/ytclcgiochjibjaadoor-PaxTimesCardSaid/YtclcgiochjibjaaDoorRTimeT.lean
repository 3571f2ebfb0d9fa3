/-
  The document's own Time.
-/
import Derived.Test.YtclcgiochjibjaaDoorRTextT
namespace Go.Proofs.YtclcgiochjibjaaDoor
open Go.RowKit
set_option linter.unusedVariables false
set_option linter.unusedSimpArgs false

theorem neg_cases (l : List UInt8) : (negT l = true ∧ ∃ r, l = 45 :: r ∧ bodyT l = r) ∨ (negT l = false ∧ bodyT l = l ∧ (l = [] ∨ ∃ b r, l = b :: r ∧ b ≠ 45)) := by
  cases l with
  | nil => exact .inr ⟨rfl, rfl, .inl rfl⟩
  | cons b r =>
    by_cases hb : b = 45
    · subst hb; exact .inl ⟨rfl, r, rfl, rfl⟩
    · have : negT (b :: r) = false := by simp [negT, hb]
      exact .inr ⟨this, by unfold bodyT; rw [this]; rfl, .inr ⟨b, r, rfl, hb⟩⟩
theorem cut_here (s : List UInt8) (k : Nat) (hk : k < s.length) (h : ∀ j, j < k → s.getD j 0 ≠ 46) (h46 : s.getD k 0 = 46) : cutP 46 s = (s.take k, s.drop (k + 1), true) := by
  have e : s = s.take k ++ 46 :: s.drop (k + 1) := by
    have : s.drop k = s[k] :: s.drop (k + 1) := List.drop_eq_getElem_cons hk
    have h2 : s[k] = 46 := by simpa [List.getD, hk] using h46
    conv => lhs; rw [← List.take_append_drop k s, this, h2]
  have hno : ∀ x ∈ s.take k, x ≠ 46 := by
    intro x hx
    obtain ⟨j, hj, rfl⟩ := List.getElem_of_mem hx
    rw [List.length_take] at hj
    have := h j (by omega)
    simpa [List.getD, show j < s.length by omega] using this
  conv => lhs; rw [e]
  exact cutP_at 46 _ _ hno
theorem cut_none (s : List UInt8) (h : ∀ j, j < s.length → s.getD j 0 ≠ 46) : cutP 46 s = (s, [], false) := by
  apply cutP_no
  intro x hx
  obtain ⟨j, hj, rfl⟩ := List.getElem_of_mem hx
  have := h j hj
  simpa [List.getD, hj] using this
theorem all_take1 (d : List UInt8) (i : Nat) (hi : i < d.length) (h : (d.take i).all isD = true) (hd : isD (d.getD i 0) = true) : (d.take (i + 1)).all isD = true := by
  rw [List.take_succ_eq_append_getElem hi, List.all_append, h]
  simp [List.getD, hi] at hd
  simp [hd]
theorem all_not (d : List UInt8) (i : Nat) (hi : i < d.length) (hd : isD (d.getD i 0) = false) : d.all isD = false := by
  rw [List.all_eq_false]
  refine ⟨d[i], List.getElem_mem hi, ?_⟩
  simp [List.getD, hi] at hd
  simp [hd]
theorem sgn_neg {n : Nat} (h : n ≤ 9223372036854775808) : sgnT n true = (-(n : Int), true) := by unfold sgnT; rw [if_pos rfl, if_pos h]
theorem sgn_pos {n : Nat} (h : n < 9223372036854775808) : sgnT n false = ((n : Int), true) := by unfold sgnT; rw [if_neg (by decide), if_pos h]

set_option maxRecDepth 20000 in
set_option maxHeartbeats 16000000 in
theorem rtime_any (l : List UInt8) (w : World) (hl : l.length ≤ 1000) :
    Calls Tryd.prog 18 #[.string (strB l)] w fun e w' => e = .returned (.tuple #[.int .i64 (timeS l).1, .bool (timeS l).2]) ∧ w = w' := by
  have hts : timeS l = if okT (bodyT l) then sgnT (magT (bodyT l)) (negT l) else (0, false) := rfl
  have hbl := bodyT_len l
  have hnc := neg_cases l
  obtain ⟨s, hs⟩ : ∃ s, s = bodyT l := ⟨_, rfl⟩
  obtain ⟨neg, hneg⟩ : ∃ neg, neg = negT l := ⟨_, rfl⟩
  rw [← hs, ← hneg] at hts hnc
  rw [← hs] at hbl
  have hok : okT s = (allD (cutP 46 s).1 19 && (!(cutP 46 s).2.2 || allD (cutP 46 s).2.1 30)) := rfl
  have hmag : magT s = digV ((cutP 46 s).1 ++ nine (cutP 46 s).2.1) := by rw [mag_digits, magT]
  obtain ⟨R, hR⟩ : ∃ R, R = timeS l := ⟨_, rfl⟩
  rw [← hR] at hts ⊢
  have HTS := Lib.hid hts; have HOk := Lib.hid hok; have HMag := Lib.hid hmag; have HNc := Lib.hid hnc
  clear hts hok hmag hnc hs hneg hR
  have hsl : s.length ≤ 1000 := by omega
  obtain ⟨S0, hS0⟩ : ∃ S0, S0 = strB l := ⟨_, rfl⟩
  have HS0 := Lib.hid hS0
  rw [← hS0]
  have hS0z : S0.size = l.length := by rw [hS0, strB_size]
  have hS0l : S0.toList = l := by rw [hS0, strB_list]
  clear hS0
  obtain ⟨S, hS⟩ : ∃ S, S = strB s := ⟨_, rfl⟩
  have HS := Lib.hid hS
  have hSz : S.size = s.length := by rw [hS, strB_size]
  have hSat : ∀ (i : Nat) (h : i < S.size), (S[i]'h) = s.getD i 0 := by subst hS; exact fun i h => strB_at s i h
  have hSx : ∀ a b, S.extract a b = strB ((s.drop a).take (b - a)) := by subst hS; exact fun a b => strB_extract s a b
  have HSat := Lib.hid hSat; have HSx := Lib.hid hSx
  clear hSat hSx hS
  obtain ⟨n, hn⟩ : ∃ n, n = s.length := ⟨_, rfl⟩
  rw [← hn] at hSz hsl
  have HN := Lib.hid hn
  clear hn hbl hl
  go_enter Tryd.func18, Tryd.ntmps18
  go_upto_region 1 with fail
  go_cut [4] from 12 to 18 (fun v4 wx => v4 = .bool neg ∧ w = wx)
  case first =>
    rcases HNc.out with ⟨rfl, r, hlr, _⟩ | ⟨rfl, _, hlr | ⟨b, r, hlr, hb⟩⟩
    · have h1 : S0.toList.isEmpty = false := by rw [hS0l, hlr]; rfl
      have h2 : ¬ S0.toList = [] := by rw [hS0l, hlr]; simp
      have hlt : 0 < S0.size := by rw [hS0z, hlr]; simp
      have hv : ((S0[0]'hlt).toNat : Int) = 45 := by
        have hh := HS0.out
        subst hh
        rw [strB_at, hlr]; rfl
      clear hlr hS0l
      go_wp2
      go_meet
      exact ⟨rfl, rfl⟩
    · have h2 : S0.toList = [] := by rw [hS0l, hlr]
      have h1 : S0.toList.isEmpty = true := by rw [h2]; rfl
      clear hlr hS0l
      go_wp2
      go_meet
      exact ⟨rfl, rfl⟩
    · have h1 : S0.toList.isEmpty = false := by rw [hS0l, hlr]; rfl
      have h2 : ¬ S0.toList = [] := by rw [hS0l, hlr]; simp
      have hlt : 0 < S0.size := by rw [hS0z, hlr]; simp
      have hv : ¬ ((S0[0]'hlt).toNat : Int) = 45 := by
        have hh := HS0.out
        subst hh
        rw [strB_at, hlr]
        intro e
        apply hb
        have e2 : ((b :: r).getD 0 0).toNat = 45 := by omega
        exact UInt8.toNat_inj.1 e2
      have hvb : (((S0[0]'hlt).toNat : Int) == 45) = false := by simpa using hv
      clear hlr hS0l
      go_wp2
      go_meet
      exact ⟨by first | rfl | rw [hvb], rfl⟩
  case rest =>
  obtain ⟨rfl, rfl⟩ := hcut
  go_upto_if 19 with fail
  go_cut [0] from 20 to 21 (fun v0 wx => v0 = .string S ∧ w = wx)
  case first =>
    rcases HNc.out with ⟨rfl, r, hlr, hsr⟩ | ⟨rfl, hsr, _⟩
    · have hx : S0.extract 1 S0.size = S := by
        rw [HS.out, HS0.out, strB_extract, strB_size, hlr, hsr, List.drop_succ_cons, List.drop_zero, List.take_of_length_le (by simp)]
      have hlt : (1 : Int) ≤ (S0.size : Int) := by rw [hS0z, hlr]; simp; omega
      rw [← hS0z] at *
      clear hlr hS0l hsr
      go_wp2
      go_meet
      exact ⟨rfl, rfl⟩
    · have hx : S0 = S := by rw [HS.out, HS0.out, hsr]
      clear hS0l hsr
      go_wp2
      go_meet
      exact ⟨by first | rfl | rw [hx], rfl⟩
  case rest =>
  obtain ⟨rfl, rfl⟩ := hcut
  clear hS0z hS0l
  go_upto_region 4 with fail
  go_wp2
  go_loopw [5] (fun v5 wr => ∃ k : Nat, v5 = .int .i64 (k : Int) ∧ k ≤ n ∧ Hid (∀ j, j < k → s.getD j 0 ≠ 46) ∧ w = wr) (fun v5 _ => n - (intOf v5).toNat)
  case atStart => exact ⟨0, rfl, by omega, Lib.hid (fun j hj => by omega), rfl⟩
  case round =>
    obtain ⟨k, rfl, hk, HJ, rfl⟩ := hrel
    by_cases hkn : k < n
    · have hlt : k < S.size := by omega
      have hat := HSat.out k hlt
      by_cases h46 : s.getD k 0 = 46
      · have hv : ((S[k]'hlt).toNat : Int) = 46 := by rw [hat, h46]; rfl
        have hcut := cut_here s k (by have := HN.out; omega) HJ.out h46
        have hfrl : (s.drop (k + 1)).length = n - (k + 1) := by rw [List.length_drop, ← HN.out]
        have hwhl : (s.take k).length = k := by rw [List.length_take, ← HN.out]; omega
        have hx1 : S.extract 0 k = strB (s.take k) := by rw [HSx.out]; simp
        have hx2 : S.extract (k + 1) n = strB (s.drop (k + 1)) := by rw [HSx.out, List.take_of_length_le (by omega)]
        obtain ⟨wh, hwh⟩ : ∃ wh, wh = s.take k := ⟨_, rfl⟩
        obtain ⟨fr, hfr⟩ : ∃ fr, fr = s.drop (k + 1) := ⟨_, rfl⟩
        rw [← hwh] at hcut hwhl hx1
        rw [← hfr] at hcut hfrl hx2
        have hok := HOk.out
        rw [hcut] at hok
        have hmag := HMag.out
        rw [hcut] at hmag
        simp only at hok hmag
        obtain ⟨WH, hWH⟩ : ∃ W, W = strB wh := ⟨_, rfl⟩
        obtain ⟨FR, hFR⟩ : ∃ W, W = strB fr := ⟨_, rfl⟩
        rw [← hWH] at hx1
        rw [← hFR] at hx2
        have hFRz : FR.size = n - (k + 1) := by rw [hFR, strB_size, hfrl]
        have hFRl : FR.toList = fr := by rw [hFR, strB_list]
        obtain ⟨k1, hk1⟩ : ∃ k1, k1 = k + 1 := ⟨_, rfl⟩
        rw [← hk1] at hx2 hFRz hfrl
        have hk1i : (k : Int) + 1 = (k1 : Int) := by omega
        have hk1n : k1 ≤ n := by omega
        have HWH := Lib.hid hWH; have HFR := Lib.hid hFR; have HFl := Lib.hid hfrl; have HWl := Lib.hid hwhl; have HMg := Lib.hid hmag; have HOk2 := Lib.hid hok
        clear hat h46 hcut hwh hfr hok hmag hWH hFR hfrl hwhl hk1
        by_cases hf0 : fr = []
        · have h1 : FR.toList = [] := by rw [hFRl, hf0]
          have h2 : FR.toList.isEmpty = true := by rw [h1]; rfl
          have HF : Hid (R = (0, false)) := Lib.hid (by rw [HTS.out, HOk2.out, hf0, show allD [] 30 = false from rfl]; simp)
          clear hf0 hFRl
          go_wp2
          go_ret2
          exact ⟨by rw [HF.out]; rfl, rfl⟩
        · have h1 : ¬ FR.toList = [] := by rw [hFRl]; exact hf0
          have h2 : FR.toList.isEmpty = false := by simpa using h1
          have HF0 := Lib.hid hf0
          clear hf0 hFRl
          by_cases hf30 : (30 : Int) < (FR.size : Int)
          · have HF : Hid (R = (0, false)) := Lib.hid (by
              have : allD fr 30 = false := by
                unfold allD
                have : decide (fr.length ≤ 30) = false := decide_eq_false (by have := HFl.out; omega)
                rw [this]; simp
              rw [HTS.out, HOk2.out, this]; simp)
            go_wp2
            go_ret2
            exact ⟨by rw [HF.out]; rfl, rfl⟩
          · have hfb : FR.size ≤ 30 := by omega
            have HFb : Hid (allD fr 30 = fr.all isD) := Lib.hid (by
              have h3 : decide (fr.length ≤ 30) = true := decide_eq_true (by have := HFl.out; omega)
              have h4 : fr.isEmpty = false := by simpa using HF0.out
              unfold allD
              rw [h3, h4]; rfl)
            have HOk3 : Hid (okT s = (allD wh 19 && fr.all isD)) := Lib.hid (by rw [HOk2.out, HFb.out]; simp)
            have HFz : Hid (FR.size = fr.length) := Lib.hid (by rw [HFR.out, strB_size])
            have hWz : WH.size = k := by rw [HWH.out, strB_size, HWl.out]
            have hWl : WH.toList = wh := by rw [HWH.out, strB_list]
            by_cases hw0 : wh = []
            · have h3 : WH.toList = [] := by rw [hWl, hw0]
              have h4 : WH.toList.isEmpty = true := by rw [h3]; rfl
              have HF : Hid (R = (0, false)) := Lib.hid (by rw [HTS.out, HOk3.out, hw0, show allD [] 19 = false from rfl]; simp)
              clear hw0 hWl
              skip
              go_wp2
              go_ret2
              exact ⟨by rw [HF.out]; rfl, rfl⟩
            · have h3 : ¬ WH.toList = [] := by rw [hWl]; exact hw0
              have h4 : WH.toList.isEmpty = false := by simpa using h3
              have HW0 := Lib.hid hw0
              clear hw0 hWl
              by_cases hw19 : (19 : Int) < (k : Int)
              · have HF : Hid (R = (0, false)) := Lib.hid (by
                  have : allD wh 19 = false := by
                    unfold allD
                    have : decide (wh.length ≤ 19) = false := decide_eq_false (by have := HWl.out; omega)
                    rw [this]; simp
                  rw [HTS.out, HOk3.out, this]; simp)
                skip
                go_wp2
                go_ret2
                exact ⟨by rw [HF.out]; rfl, rfl⟩
              · have hk19 : k ≤ 19 := by omega
                have HWb : Hid (allD wh 19 = wh.all isD) := Lib.hid (by
                  have h5 : decide (wh.length ≤ 19) = true := decide_eq_true (by have := HWl.out; omega)
                  have h6 : wh.isEmpty = false := by simpa using HW0.out
                  unfold allD
                  rw [h5, h6]; rfl)
                have hadd : WH ++ FR = strB (wh ++ fr) := by rw [HWH.out, HFR.out, strB_app]
                obtain ⟨d, hd⟩ : ∃ d, d = wh ++ fr := ⟨_, rfl⟩
                have hda : okT s = d.all isD := by rw [HOk3.out, HWb.out, hd, List.all_append]
                rw [← hd] at hadd
                obtain ⟨DD, hDD⟩ : ∃ D, D = strB d := ⟨_, rfl⟩
                rw [← hDD] at hadd
                obtain ⟨dl, hdl⟩ : ∃ dl, dl = d.length := ⟨_, rfl⟩
                have hDz : DD.size = dl := by rw [hDD, strB_size, hdl]
                have hdb : dl ≤ 49 := by
                  rw [hdl, hd, List.length_append, ← HFz.out, HWl.out]; omega
                have HDat : Hid (∀ (i : Nat) (h : i < DD.size), (DD[i]'h) = d.getD i 0) := Lib.hid (by subst hDD; exact fun i h => strB_at d i h)
                have HDa := Lib.hid hda; have HDl := Lib.hid hdl
                -- the digits behind
                have hz9 : FR ++ ⟨#[48, 48, 48, 48, 48, 48, 48, 48, 48]⟩ = strB (fr ++ List.replicate 9 48) := by rw [HFR.out]; exact strB_app fr (List.replicate 9 48)
                have hz9s : (strB (fr ++ List.replicate 9 48)).size = FR.size + 9 := by rw [strB_size, List.length_append, List.length_replicate, HFz.out]
                have hz9x : (strB (fr ++ List.replicate 9 48)).extract 0 9 = strB (nine fr) := by rw [strB_extract]; rfl
                have hnz : (strB (nine fr)).size = 9 := by rw [strB_size, nine_len]
                have had2 : WH ++ strB (nine fr) = strB (wh ++ nine fr) := by rw [HWH.out, strB_app]
                obtain ⟨g, hg⟩ : ∃ g, g = wh ++ nine fr := ⟨_, rfl⟩
                rw [← hg] at had2
                have HMg2 : Hid (magT s = digV g) := Lib.hid (by rw [HMg.out, hg])
                obtain ⟨GG, hGG⟩ : ∃ D, D = strB g := ⟨_, rfl⟩
                rw [← hGG] at had2
                obtain ⟨gl, hgl⟩ : ∃ gl, gl = g.length := ⟨_, rfl⟩
                have hGz : GG.size = gl := by rw [hGG, strB_size, hgl]
                have hgb : gl ≤ 28 := by rw [hgl, hg, List.length_append, nine_len, HWl.out]; omega
                have HGat : Hid (∀ (i : Nat) (h : i < GG.size), (GG[i]'h) = g.getD i 0) := Lib.hid (by subst hGG; exact fun i h => strB_at g i h)
                have HGl := Lib.hid hgl
                have HGd : Hid (d.all isD = true → ∀ i, i < gl → 48 ≤ (g.getD i 0).toNat ∧ (g.getD i 0).toNat ≤ 57) := Lib.hid (fun ha i hi => by
                  have h1 : g.all isD = true := by
                    rw [hd, List.all_append, Bool.and_eq_true] at ha
                    rw [hg, List.all_append, ha.1, nine_all fr ha.2]; rfl
                  have hi2 : i < g.length := by omega
                  have hmem : g.getD i 0 ∈ g := by simp [List.getD, hi2]
                  exact (isD_iff _).1 (List.all_eq_true.1 h1 _ hmem))
                generalize strB (fr ++ List.replicate 9 48) = F9 at *
                generalize strB (nine fr) = N9 at *
                clear hd hda hDD hdl hg hGG hgl
                skip
                go_wp2
                go_loopw [9] (fun v9 wr => ∃ i : Nat, v9 = .int .i64 (i : Int) ∧ i ≤ dl ∧ Hid ((d.take i).all isD = true) ∧ w = wr) (fun v9 _ => dl - (intOf v9).toNat)
                case atStart => exact ⟨0, rfl, by omega, Lib.hid (by simp), rfl⟩
                case round =>
                  obtain ⟨i, rfl, hi, HI, rfl⟩ := hrel
                  by_cases hid : i < dl
                  · have hlt2 : i < DD.size := by omega
                    have hat := HDat.out i hlt2
                    have hb := isD_iff (d.getD i 0)
                    by_cases hx : 48 ≤ (d.getD i 0).toNat ∧ (d.getD i 0).toNat ≤ 57
                    · have HI2 := Lib.hid (all_take1 d i (by have := HDl.out; omega) HI.out (hb.2 hx))
                      rw [← hat] at hx
                      have q1 : ¬ ((DD[i]'hlt2).toNat : Int) < 48 := by omega
                      have q2 : ¬ (57 : Int) < ((DD[i]'hlt2).toNat : Int) := by omega
                      clear hx hb hat
                      go_wp2
                      go_roundw
                      case rel => exact ⟨i + 1, by go_num, by omega, HI2, trivial⟩
                      case measure => simp [intOf]; omega
                    · have hnd : isD (d.getD i 0) = false := by
                        cases hh : isD (d.getD i 0) with
                        | false => rfl
                        | true => exact absurd (hb.1 hh) hx
                      have HF : Hid (R = (0, false)) := Lib.hid (by rw [HTS.out, HDa.out, all_not d i (by have := HDl.out; omega) hnd]; simp)
                      rw [← hat] at hx
                      by_cases q1 : ((DD[i]'hlt2).toNat : Int) < 48
                      · clear hx hb hat hnd
                        go_wp2
                        go_ret2
                        exact ⟨by rw [HF.out]; rfl, rfl⟩
                      · have q2 : (57 : Int) < ((DD[i]'hlt2).toNat : Int) := by omega
                        clear hx hb hat hnd
                        go_wp2
                        go_ret2
                        exact ⟨by rw [HF.out]; rfl, rfl⟩
                  · have hie : i = dl := by omega
                    have hall : d.all isD = true := by
                      have := HI.out
                      rwa [hie, HDl.out, List.take_length] at this
                    have HG2 := Lib.hid (HGd.out hall)
                    have HTS2 : Hid (R = sgnT (digV g) neg) := Lib.hid (by rw [HTS.out, HDa.out, hall, HMg2.out, if_pos rfl])
                    have q9 : (9 : Int) ≤ (F9.size : Int) := by omega
                    clear hall
                    go_wp2
                    go_loopw [10, 11] (fun v10 v11 wr => ∃ j : Nat, v11 = .int .i64 (j : Int) ∧ v10 = .int .u64 ((digV (g.take j) : Nat) : Int) ∧ j ≤ gl ∧ digV (g.take j) ≤ 9223372036854775809 ∧ w = wr) (fun _ v11 _ => gl - (intOf v11).toNat)
                    case atStart => exact ⟨0, rfl, by simp [digV], by omega, by simp [digV], rfl⟩
                    case round =>
                      obtain ⟨j, rfl, rfl, hj, hvb, rfl⟩ := hrel
                      by_cases hjg : j < gl
                      · have hgl2 : j < g.length := by have := HGl.out; omega
                        have hbig := fun h => sgn_big (dig_big g j hgl2 h) neg
                        have hst := dig_step g j hgl2
                        obtain ⟨y1, y2⟩ := HG2.out j hjg
                        have hlt3 : j < GG.size := by omega
                        have hat := HGat.out j hlt3
                        rw [← hat] at y1 y2 hst
                        obtain ⟨V, hV⟩ : ∃ V, V = digV (g.take j) := ⟨_, rfl⟩
                        rw [← hV] at hbig hst hvb ⊢
                        have HBig := Lib.hid hbig; have HSt := Lib.hid hst
                        clear hbig hst hat hV
                        by_cases hv9 : (922337203685477580 : Int) < (V : Int)
                        · have HF : Hid (R = (0, false)) := Lib.hid (by rw [HTS2.out]; exact HBig.out (by omega))
                          go_wp2
                          go_ret2
                          exact ⟨by rw [HF.out]; rfl, rfl⟩
                        · have hw8 : IntKind.u8.wrap (((GG[j]'hlt3).toNat : Int) - 48) = (((GG[j]'hlt3).toNat - 48 : Nat) : Int) := by rw [IntKind.wrap_u8]; omega
                          obtain ⟨y, hy⟩ : ∃ y, y = (GG[j]'hlt3).toNat - 48 := ⟨_, rfl⟩
                          rw [← hy] at hw8
                          have HSt2 : Hid (digV (g.take (j + 1)) = 10 * V + y) := Lib.hid (by rw [HSt.out, hy])
                          have hy9 : y ≤ 9 := by omega
                          obtain ⟨V2, hV2⟩ : ∃ V2, V2 = 10 * V := ⟨_, rfl⟩
                          obtain ⟨V3, hV3⟩ : ∃ V3, V3 = V2 + y := ⟨_, rfl⟩
                          have hm1 : IntKind.u64.wrap (10 * (V : Int)) = (V2 : Int) := by rw [IntKind.wrap_u64]; omega
                          have hm2 : IntKind.u64.wrap ((V2 : Int) + (y : Int)) = (V3 : Int) := by rw [IntKind.wrap_u64]; omega
                          have hv3 : V3 ≤ 9223372036854775809 := by omega
                          have HSt3 : Hid (digV (g.take (j + 1)) = V3) := Lib.hid (by rw [HSt2.out, hV3, hV2])
                          clear hy hV2 hV3 y1 y2
                          go_wp2
                          go_roundw
                          case rel => exact ⟨j + 1, by go_num, by rw [HSt3.out], by omega, by rw [HSt3.out]; exact hv3, trivial⟩
                          case measure => simp [intOf]; omega
                      · have hje : j = gl := by omega
                        have hfin : R = sgnT (digV (g.take j)) neg := by rw [HTS2.out, hje, HGl.out, List.take_length]
                        obtain ⟨V, hV⟩ : ∃ V, V = digV (g.take j) := ⟨_, rfl⟩
                        rw [← hV] at hfin hvb ⊢
                        have HFin := Lib.hid hfin
                        clear hfin hV hje
                        cases neg with
                        | true =>
                          by_cases hv : (9223372036854775808 : Int) < (V : Int)
                          · have HF : Hid (R = (0, false)) := Lib.hid (by rw [HFin.out]; exact sgn_big (by omega) _)
                            go_wp2
                            go_ret2
                            exact ⟨by rw [HF.out]; rfl, rfl⟩
                          · have HF : Hid (R = (-(V : Int), true)) := Lib.hid (by rw [HFin.out]; exact sgn_neg (by omega))
                            have hw : IntKind.i64.wrap (IntKind.u64.wrap (-(V : Int))) = -(V : Int) := by rw [IntKind.wrap_u64, IntKind.wrap_i64]; omega
                            go_wp2
                            go_ret2
                            exact ⟨by rw [HF.out]; rfl, rfl⟩
                        | false =>
                          by_cases hv : (9223372036854775808 : Int) < (V : Int)
                          · have HF : Hid (R = (0, false)) := Lib.hid (by rw [HFin.out]; exact sgn_big (by omega) _)
                            go_wp2
                            go_ret2
                            exact ⟨by rw [HF.out]; rfl, rfl⟩
                          · by_cases hv2 : (9223372036854775807 : Int) < (V : Int)
                            · have HF : Hid (R = (0, false)) := Lib.hid (by
                                rw [HFin.out]
                                unfold sgnT
                                rw [if_neg (by decide), if_neg (by omega)])
                              go_wp2
                              go_ret2
                              exact ⟨by rw [HF.out]; rfl, rfl⟩
                            · have HF : Hid (R = ((V : Int), true)) := Lib.hid (by rw [HFin.out]; exact sgn_pos (by omega))
                              have hw : IntKind.i64.wrap (V : Int) = (V : Int) := by rw [IntWalk.i64_in _ (by omega)]
                              go_wp2
                              go_ret2
                              exact ⟨by rw [HF.out]; rfl, rfl⟩
      · have hv : ¬ ((S[k]'hlt).toNat : Int) = 46 := by
          rw [hat]
          intro e
          apply h46
          have : (s.getD k 0).toNat = 46 := by omega
          exact UInt8.toNat_inj.1 (by rw [this]; rfl)
        have HJ2 : Hid (∀ j, j < k + 1 → s.getD j 0 ≠ 46) := Lib.hid (fun j hj => by
          by_cases hjk : j = k
          · subst hjk; exact h46
          · exact HJ.out j (by omega))
        clear hat h46
        go_wp2
        go_roundw
        case rel => exact ⟨k + 1, by go_num, by omega, HJ2, trivial⟩
        case measure => simp [intOf]; omega
    · have hke : k = n := by omega
      subst hke
      have hcut := cut_none s (by rw [← HN.out]; exact HJ.out)
      have hx1 : S.extract 0 k = strB s := by rw [HSx.out]; simp; rw [List.take_of_length_le (by rw [← HN.out]; exact Nat.le_refl _)]
      obtain ⟨wh, hwh⟩ : ∃ wh, wh = s := ⟨_, rfl⟩
      obtain ⟨fr, hfr⟩ : ∃ fr : List UInt8, fr = [] := ⟨_, rfl⟩
      have hwhl : wh.length = k := by rw [hwh, ← HN.out]
      rw [← hwh] at hx1
      have hok := HOk.out
      rw [hcut] at hok
      have hmag := HMag.out
      rw [hcut] at hmag
      simp only at hok hmag
      obtain ⟨WH, hWH⟩ : ∃ W, W = strB wh := ⟨_, rfl⟩
      obtain ⟨FR, hFR⟩ : ∃ W : ByteArray, W = ⟨#[]⟩ := ⟨_, rfl⟩
      rw [← hWH] at hx1
      have HFR : Hid (FR = strB fr) := Lib.hid (by rw [hFR, hfr]; rfl)
      have HWH := Lib.hid hWH; have HWl := Lib.hid hwhl
      have HMg : Hid (magT s = digV (wh ++ nine fr)) := Lib.hid (by rw [hmag, hwh, hfr])
      have HOk3 : Hid (okT s = (allD wh 19 && fr.all isD)) := Lib.hid (by rw [hok, hwh, hfr]; simp)
      have HFz : Hid (FR.size = fr.length) := Lib.hid (by rw [HFR.out, strB_size])
      have hfb : FR.size ≤ 30 := by rw [HFz.out, hfr]; simp
      clear hcut hwh hfr hok hmag hWH hwhl
      have hWz : WH.size = k := by rw [HWH.out, strB_size, HWl.out]
      have hWl : WH.toList = wh := by rw [HWH.out, strB_list]
      by_cases hw0 : wh = []
      · have h3 : WH.toList = [] := by rw [hWl, hw0]
        have h4 : WH.toList.isEmpty = true := by rw [h3]; rfl
        have HF : Hid (R = (0, false)) := Lib.hid (by rw [HTS.out, HOk3.out, hw0, show allD [] 19 = false from rfl]; simp)
        clear hw0 hWl
        subst hFR
        go_wp2
        go_ret2
        exact ⟨by rw [HF.out]; rfl, rfl⟩
      · have h3 : ¬ WH.toList = [] := by rw [hWl]; exact hw0
        have h4 : WH.toList.isEmpty = false := by simpa using h3
        have HW0 := Lib.hid hw0
        clear hw0 hWl
        by_cases hw19 : (19 : Int) < (k : Int)
        · have HF : Hid (R = (0, false)) := Lib.hid (by
            have : allD wh 19 = false := by
              unfold allD
              have : decide (wh.length ≤ 19) = false := decide_eq_false (by have := HWl.out; omega)
              rw [this]; simp
            rw [HTS.out, HOk3.out, this]; simp)
          subst hFR
          go_wp2
          go_ret2
          exact ⟨by rw [HF.out]; rfl, rfl⟩
        · have hk19 : k ≤ 19 := by omega
          have HWb : Hid (allD wh 19 = wh.all isD) := Lib.hid (by
            have h5 : decide (wh.length ≤ 19) = true := decide_eq_true (by have := HWl.out; omega)
            have h6 : wh.isEmpty = false := by simpa using HW0.out
            unfold allD
            rw [h5, h6]; rfl)
          have hadd : WH ++ FR = strB (wh ++ fr) := by rw [HWH.out, HFR.out, strB_app]
          obtain ⟨d, hd⟩ : ∃ d, d = wh ++ fr := ⟨_, rfl⟩
          have hda : okT s = d.all isD := by rw [HOk3.out, HWb.out, hd, List.all_append]
          rw [← hd] at hadd
          obtain ⟨DD, hDD⟩ : ∃ D, D = strB d := ⟨_, rfl⟩
          rw [← hDD] at hadd
          obtain ⟨dl, hdl⟩ : ∃ dl, dl = d.length := ⟨_, rfl⟩
          have hDz : DD.size = dl := by rw [hDD, strB_size, hdl]
          have hdb : dl ≤ 49 := by
            rw [hdl, hd, List.length_append, ← HFz.out, HWl.out]; omega
          have HDat : Hid (∀ (i : Nat) (h : i < DD.size), (DD[i]'h) = d.getD i 0) := Lib.hid (by subst hDD; exact fun i h => strB_at d i h)
          have HDa := Lib.hid hda; have HDl := Lib.hid hdl
          -- the digits behind
          have hz9 : FR ++ ⟨#[48, 48, 48, 48, 48, 48, 48, 48, 48]⟩ = strB (fr ++ List.replicate 9 48) := by rw [HFR.out]; exact strB_app fr (List.replicate 9 48)
          have hz9s : (strB (fr ++ List.replicate 9 48)).size = FR.size + 9 := by rw [strB_size, List.length_append, List.length_replicate, HFz.out]
          have hz9x : (strB (fr ++ List.replicate 9 48)).extract 0 9 = strB (nine fr) := by rw [strB_extract]; rfl
          have hnz : (strB (nine fr)).size = 9 := by rw [strB_size, nine_len]
          have had2 : WH ++ strB (nine fr) = strB (wh ++ nine fr) := by rw [HWH.out, strB_app]
          obtain ⟨g, hg⟩ : ∃ g, g = wh ++ nine fr := ⟨_, rfl⟩
          rw [← hg] at had2
          have HMg2 : Hid (magT s = digV g) := Lib.hid (by rw [HMg.out, hg])
          obtain ⟨GG, hGG⟩ : ∃ D, D = strB g := ⟨_, rfl⟩
          rw [← hGG] at had2
          obtain ⟨gl, hgl⟩ : ∃ gl, gl = g.length := ⟨_, rfl⟩
          have hGz : GG.size = gl := by rw [hGG, strB_size, hgl]
          have hgb : gl ≤ 28 := by rw [hgl, hg, List.length_append, nine_len, HWl.out]; omega
          have HGat : Hid (∀ (i : Nat) (h : i < GG.size), (GG[i]'h) = g.getD i 0) := Lib.hid (by subst hGG; exact fun i h => strB_at g i h)
          have HGl := Lib.hid hgl
          have HGd : Hid (d.all isD = true → ∀ i, i < gl → 48 ≤ (g.getD i 0).toNat ∧ (g.getD i 0).toNat ≤ 57) := Lib.hid (fun ha i hi => by
            have h1 : g.all isD = true := by
              rw [hd, List.all_append, Bool.and_eq_true] at ha
              rw [hg, List.all_append, ha.1, nine_all fr ha.2]; rfl
            have hi2 : i < g.length := by omega
            have hmem : g.getD i 0 ∈ g := by simp [List.getD, hi2]
            exact (isD_iff _).1 (List.all_eq_true.1 h1 _ hmem))
          generalize strB (fr ++ List.replicate 9 48) = F9 at *
          generalize strB (nine fr) = N9 at *
          clear hd hda hDD hdl hg hGG hgl
          subst hFR
          go_wp2
          go_loopw [9] (fun v9 wr => ∃ i : Nat, v9 = .int .i64 (i : Int) ∧ i ≤ dl ∧ Hid ((d.take i).all isD = true) ∧ w = wr) (fun v9 _ => dl - (intOf v9).toNat)
          case atStart => exact ⟨0, rfl, by omega, Lib.hid (by simp), rfl⟩
          case round =>
            obtain ⟨i, rfl, hi, HI, rfl⟩ := hrel
            by_cases hid : i < dl
            · have hlt2 : i < DD.size := by omega
              have hat := HDat.out i hlt2
              have hb := isD_iff (d.getD i 0)
              by_cases hx : 48 ≤ (d.getD i 0).toNat ∧ (d.getD i 0).toNat ≤ 57
              · have HI2 := Lib.hid (all_take1 d i (by have := HDl.out; omega) HI.out (hb.2 hx))
                rw [← hat] at hx
                have q1 : ¬ ((DD[i]'hlt2).toNat : Int) < 48 := by omega
                have q2 : ¬ (57 : Int) < ((DD[i]'hlt2).toNat : Int) := by omega
                clear hx hb hat
                go_wp2
                go_roundw
                case rel => exact ⟨i + 1, by go_num, by omega, HI2, trivial⟩
                case measure => simp [intOf]; omega
              · have hnd : isD (d.getD i 0) = false := by
                  cases hh : isD (d.getD i 0) with
                  | false => rfl
                  | true => exact absurd (hb.1 hh) hx
                have HF : Hid (R = (0, false)) := Lib.hid (by rw [HTS.out, HDa.out, all_not d i (by have := HDl.out; omega) hnd]; simp)
                rw [← hat] at hx
                by_cases q1 : ((DD[i]'hlt2).toNat : Int) < 48
                · clear hx hb hat hnd
                  go_wp2
                  go_ret2
                  exact ⟨by rw [HF.out]; rfl, rfl⟩
                · have q2 : (57 : Int) < ((DD[i]'hlt2).toNat : Int) := by omega
                  clear hx hb hat hnd
                  go_wp2
                  go_ret2
                  exact ⟨by rw [HF.out]; rfl, rfl⟩
            · have hie : i = dl := by omega
              have hall : d.all isD = true := by
                have := HI.out
                rwa [hie, HDl.out, List.take_length] at this
              have HG2 := Lib.hid (HGd.out hall)
              have HTS2 : Hid (R = sgnT (digV g) neg) := Lib.hid (by rw [HTS.out, HDa.out, hall, HMg2.out, if_pos rfl])
              have q9 : (9 : Int) ≤ (F9.size : Int) := by omega
              clear hall
              go_wp2
              go_loopw [10, 11] (fun v10 v11 wr => ∃ j : Nat, v11 = .int .i64 (j : Int) ∧ v10 = .int .u64 ((digV (g.take j) : Nat) : Int) ∧ j ≤ gl ∧ digV (g.take j) ≤ 9223372036854775809 ∧ w = wr) (fun _ v11 _ => gl - (intOf v11).toNat)
              case atStart => exact ⟨0, rfl, by simp [digV], by omega, by simp [digV], rfl⟩
              case round =>
                obtain ⟨j, rfl, rfl, hj, hvb, rfl⟩ := hrel
                by_cases hjg : j < gl
                · have hgl2 : j < g.length := by have := HGl.out; omega
                  have hbig := fun h => sgn_big (dig_big g j hgl2 h) neg
                  have hst := dig_step g j hgl2
                  obtain ⟨y1, y2⟩ := HG2.out j hjg
                  have hlt3 : j < GG.size := by omega
                  have hat := HGat.out j hlt3
                  rw [← hat] at y1 y2 hst
                  obtain ⟨V, hV⟩ : ∃ V, V = digV (g.take j) := ⟨_, rfl⟩
                  rw [← hV] at hbig hst hvb ⊢
                  have HBig := Lib.hid hbig; have HSt := Lib.hid hst
                  clear hbig hst hat hV
                  by_cases hv9 : (922337203685477580 : Int) < (V : Int)
                  · have HF : Hid (R = (0, false)) := Lib.hid (by rw [HTS2.out]; exact HBig.out (by omega))
                    go_wp2
                    go_ret2
                    exact ⟨by rw [HF.out]; rfl, rfl⟩
                  · have hw8 : IntKind.u8.wrap (((GG[j]'hlt3).toNat : Int) - 48) = (((GG[j]'hlt3).toNat - 48 : Nat) : Int) := by rw [IntKind.wrap_u8]; omega
                    obtain ⟨y, hy⟩ : ∃ y, y = (GG[j]'hlt3).toNat - 48 := ⟨_, rfl⟩
                    rw [← hy] at hw8
                    have HSt2 : Hid (digV (g.take (j + 1)) = 10 * V + y) := Lib.hid (by rw [HSt.out, hy])
                    have hy9 : y ≤ 9 := by omega
                    obtain ⟨V2, hV2⟩ : ∃ V2, V2 = 10 * V := ⟨_, rfl⟩
                    obtain ⟨V3, hV3⟩ : ∃ V3, V3 = V2 + y := ⟨_, rfl⟩
                    have hm1 : IntKind.u64.wrap (10 * (V : Int)) = (V2 : Int) := by rw [IntKind.wrap_u64]; omega
                    have hm2 : IntKind.u64.wrap ((V2 : Int) + (y : Int)) = (V3 : Int) := by rw [IntKind.wrap_u64]; omega
                    have hv3 : V3 ≤ 9223372036854775809 := by omega
                    have HSt3 : Hid (digV (g.take (j + 1)) = V3) := Lib.hid (by rw [HSt2.out, hV3, hV2])
                    clear hy hV2 hV3 y1 y2
                    go_wp2
                    go_roundw
                    case rel => exact ⟨j + 1, by go_num, by rw [HSt3.out], by omega, by rw [HSt3.out]; exact hv3, trivial⟩
                    case measure => simp [intOf]; omega
                · have hje : j = gl := by omega
                  have hfin : R = sgnT (digV (g.take j)) neg := by rw [HTS2.out, hje, HGl.out, List.take_length]
                  obtain ⟨V, hV⟩ : ∃ V, V = digV (g.take j) := ⟨_, rfl⟩
                  rw [← hV] at hfin hvb ⊢
                  have HFin := Lib.hid hfin
                  clear hfin hV hje
                  cases neg with
                  | true =>
                    by_cases hv : (9223372036854775808 : Int) < (V : Int)
                    · have HF : Hid (R = (0, false)) := Lib.hid (by rw [HFin.out]; exact sgn_big (by omega) _)
                      go_wp2
                      go_ret2
                      exact ⟨by rw [HF.out]; rfl, rfl⟩
                    · have HF : Hid (R = (-(V : Int), true)) := Lib.hid (by rw [HFin.out]; exact sgn_neg (by omega))
                      have hw : IntKind.i64.wrap (IntKind.u64.wrap (-(V : Int))) = -(V : Int) := by rw [IntKind.wrap_u64, IntKind.wrap_i64]; omega
                      go_wp2
                      go_ret2
                      exact ⟨by rw [HF.out]; rfl, rfl⟩
                  | false =>
                    by_cases hv : (9223372036854775808 : Int) < (V : Int)
                    · have HF : Hid (R = (0, false)) := Lib.hid (by rw [HFin.out]; exact sgn_big (by omega) _)
                      go_wp2
                      go_ret2
                      exact ⟨by rw [HF.out]; rfl, rfl⟩
                    · by_cases hv2 : (9223372036854775807 : Int) < (V : Int)
                      · have HF : Hid (R = (0, false)) := Lib.hid (by
                          rw [HFin.out]
                          unfold sgnT
                          rw [if_neg (by decide), if_neg (by omega)])
                        go_wp2
                        go_ret2
                        exact ⟨by rw [HF.out]; rfl, rfl⟩
                      · have HF : Hid (R = ((V : Int), true)) := Lib.hid (by rw [HFin.out]; exact sgn_pos (by omega))
                        have hw : IntKind.i64.wrap (V : Int) = (V : Int) := by rw [IntWalk.i64_in _ (by omega)]
                        go_wp2
                        go_ret2
                        exact ⟨by rw [HF.out]; rfl, rfl⟩
end Go.Proofs.YtclcgiochjibjaaDoor
