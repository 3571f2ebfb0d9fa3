/-
  The law NameBounds.
-/
import Derived.Test.YtamoojalfpghhaaDoorBoundsP
import Derived.Test.YtamoojalfpghhaaDoorMask
namespace Go.Proofs.YtamoojalfpghhaaDoor
open Go.RowKit Go.Shelf
set_option linter.unusedVariables false
set_option linter.unusedSimpArgs false

theorem infoB : (Tryd.prog.info? 5).map (fun i => (i.zero, i.size, i.bytes)) = some (some (.int .u8 0), 1, 1) := by kernel_rfl
def gI (i : Nat) : Int := if i % 100 = 99 then 47 else 121
theorem bounds_conv1 {w3 : World} {G j : Nat} (h : Reads w3 (some ⟨G, 0, none⟩) (fillI (fun _ => 120) j j)) (W : World) (hk : Kept NoB w3 W) : (convert 22 9 (.slice (some ⟨G, 0, none⟩) j j)).run Tryd.prog W = .ok (.string (strB (List.replicate j 120))) W := by
  rw [conv_reads (h.keptNo hk) (fill_len _ _ _).symm (fun h => by cases h), str_fill (fun _ => 120) (fun _ => 120) j (fun i => rfl)]
  have : (List.range j).map (fun _ => (120 : UInt8)) = List.replicate j 120 := by
    rw [List.eq_replicate_iff]; exact ⟨by simp, fun b hb => by simp at hb; exact hb.2.symm⟩
  rw [this]
theorem bounds_conv2 {w3 : World} {G j : Nat} (h : Reads w3 (some ⟨G, 0, none⟩) (fillI gI j j)) (W : World) (hk : Kept NoB w3 W) : (convert 22 9 (.slice (some ⟨G, 0, none⟩) j j)).run Tryd.prog W = .ok (.string (strB ((List.range j).map yf))) W := by
  rw [conv_reads (h.keptNo hk) (fill_len _ _ _).symm (fun h => by cases h), str_fill gI yf j (fun i => by unfold gI yf; split <;> rfl)]
theorem bounds_p1 (j : Nat) (hj : 252 ≤ j ∧ j ≤ 259) : ∃ e1 : Int, (∀ W, Calls Tryd.prog 6 #[.string (strB (97 :: 47 :: List.replicate j 120))] W fun e w' => ∃ ao q cap, e = .returned (.tuple #[.slice ao q cap, .int .i64 e1]) ∧ Below W.heap.size W w') ∧ ((j ≤ 255 ∧ e1 = 0) ∨ (¬ j ≤ 255 ∧ e1 = 9)) := by
  have hp := xs_parts j (by omega)
  by_cases h : j ≤ 255
  · rw [if_pos h] at hp
    refine ⟨0, fun W => (parts_calls _ W (by simp; omega)).mono ?_, .inl ⟨h, rfl⟩⟩
    rintro e w' (⟨hn, _⟩ | ⟨ps, ao, cap, _, rfl, _, hb⟩)
    · rw [hp] at hn; cases hn
    · exact ⟨ao, _, cap, rfl, hb⟩
  · rw [if_neg h] at hp
    refine ⟨9, fun W => (parts_calls _ W (by simp; omega)).mono ?_, .inr ⟨h, rfl⟩⟩
    rintro e w' (⟨_, rfl, hb⟩ | ⟨ps, ao, cap, hs, _⟩)
    · exact ⟨none, 0, 0, rfl, hb⟩
    · rw [hp] at hs; cases hs
theorem bounds_p2 (k : Nat) (hk : 4093 ≤ k ∧ k ≤ 4100) : ∃ e2 : Int, (∀ W, Calls Tryd.prog 6 #[.string (strB ((List.range k).map yf))] W fun e w' => ∃ ao q cap, e = .returned (.tuple #[.slice ao q cap, .int .i64 e2]) ∧ (k ≤ 4096 → q = 41) ∧ Below W.heap.size W w') ∧ ((k ≤ 4096 ∧ e2 = 0) ∨ (¬ k ≤ 4096 ∧ e2 = 9)) := by
  have hp := ys_parts k hk
  by_cases h : k ≤ 4096
  · rw [if_pos h] at hp
    obtain ⟨L, hp, hL⟩ := hp
    refine ⟨0, fun W => (parts_calls _ W (by simp; omega)).mono ?_, .inl ⟨h, rfl⟩⟩
    rintro e w' (⟨hn, _⟩ | ⟨ps, ao, cap, hs, rfl, _, hb⟩)
    · rw [hp] at hn; cases hn
    · rw [hp] at hs
      cases hs
      exact ⟨ao, _, cap, rfl, fun _ => hL, hb⟩
  · rw [if_neg h] at hp
    refine ⟨9, fun W => (parts_calls _ W (by simp; omega)).mono ?_, .inr ⟨h, rfl⟩⟩
    rintro e w' (⟨_, rfl, hb⟩ | ⟨ps, ao, cap, hs, _⟩)
    · exact ⟨none, 0, 0, rfl, fun h' => absurd h' h, hb⟩
    · rw [hp] at hs; cases hs
theorem ok_no0 (W : World) : Calls Tryd.prog 7 #[.string ⟨#[]⟩] W fun e w' => e = .returned (.bool false) ∧ Below W.heap.size W w' := by
  have := ok_calls ⟨#[]⟩ W (by decide)
  rwa [show okN ⟨#[]⟩ = false by decide +kernel] at this
theorem ok_no1 (W : World) : Calls Tryd.prog 7 #[.string ⟨#[97, 47, 98]⟩] W fun e w' => e = .returned (.bool false) ∧ Below W.heap.size W w' := by
  have := ok_calls ⟨#[97, 47, 98]⟩ W (by decide)
  rwa [show okN ⟨#[97, 47, 98]⟩ = false by decide +kernel] at this
theorem ok_no2 (W : World) : Calls Tryd.prog 7 #[.string ⟨#[97, 0]⟩] W fun e w' => e = .returned (.bool false) ∧ Below W.heap.size W w' := by
  have := ok_calls ⟨#[97, 0]⟩ W (by decide)
  rwa [show okN ⟨#[97, 0]⟩ = false by decide +kernel] at this
set_option maxRecDepth 20000 in
set_option maxHeartbeats 4000000 in
theorem nameBounds_law (v0 v1 : Value) (w : World) (r0 : Arg w 3 v0) (r1 : Arg w 3 v1) :
    Calls Tryd.prog 3 #[v0, v1] w fun e w' => e = .returned (.bool true) ∧ Below w.heap.size w w' := by
  obtain ⟨n0, rfl, hn0⟩ := r0.int Tryd.underlying3
  obtain ⟨m0, rfl, hm0⟩ := r1.int Tryd.underlying3
  obtain ⟨i0, hi, hz0, hz1, hz2⟩ := info_parts infoB
  have hm7 := mask7 n0
  have hm8 := mask7 m0
  obtain ⟨N, hN⟩ : ∃ N : Nat, (N : Int) = n0 % 8 + 252 := ⟨(n0 % 8 + 252).toNat, by omega⟩
  obtain ⟨M, hM⟩ : ∃ M : Nat, (M : Int) = m0 % 8 + 4093 := ⟨(m0 % 8 + 4093).toNat, by omega⟩
  have hN1 : 252 ≤ N ∧ N ≤ 259 := by omega
  have hM1 : 4093 ≤ M ∧ M ≤ 4100 := by omega
  go_enter Tryd.func3, Tryd.ntmps3
  go_upto_region 2 with fail
  rw [← hN, ← hM]
  clear hm7 hm8 hN hM hn0 hm0
  go_wp2_with (at_make; refine wpList_make_full _ rfl _ _ _ rfl 0 5 i0 (.int .u8 0) 1 Tryd.underlying22 hi hz0 hz1 .i64 .i64 _ _ N rfl rfl rfl rfl (by rw [hz2]; omega) (by unfold maxLen; omega) (Nat.zero_le _) ?_)
  intro w2 hown hgrow
  obtain ⟨G, hG⟩ : ∃ G, G = w.heap.size := ⟨_, rfl⟩
  rw [← hG] at hown ⊢
  have hown0 : w2.ownsRow 0 5 1 (.slice (some ⟨G, 0, none⟩) N N) N ((fillI (fun _ => 120) N 0).map (.int .u8)) := by
    rw [fill_zero, List.map_replicate, ← toList_madeCells_one]
    exact hown
  have HO0 := Lib.hid hown0; have HK0 := Lib.hid ((Kept.refl NoB w).grown hgrow (fun _ _ e => by cases e)); have HG := Lib.hid hG
  clear hown hgrow hown0 hG
  go_wp2
  go_loopw [23, 6] (fun v23 v6 wr => ∃ j : Nat, v23 = .int .i64 (j : Int) ∧ j ≤ N ∧ Hid (wr.ownsRow 0 5 1 (.slice (some ⟨G, 0, none⟩) N N) N ((fillI (fun _ => 120) N j).map (.int .u8))) ∧ Hid (Kept NoB w wr)) (fun v23 _ _ => N - (intOf v23).toNat)
  case atStart => exact ⟨0, rfl, by omega, HO0, HK0⟩
  case round =>
    obtain ⟨j, rfl, hj, HO, HK⟩ := hrel
    by_cases hlt : (j : Int) < N
    · have hst : (wr.setCell ⟨G, j, none⟩ (.int .u8 120)).ownsRow 0 5 1 (.slice (some ⟨G, 0, none⟩) N N) N ((fillI (fun _ => 120) N (j + 1)).map (.int .u8)) := by
        rw [← fill_set, List.map_set]
        exact (HO.out.stored j (.int .u8 120)).1
      have hkn : Kept NoB w (wr.setCell ⟨G, j, none⟩ (.int .u8 120)) := Kept.setCell (p := ⟨G, j, none⟩) HK.out (.inr (show w.heap.size ≤ G by rw [HG.out]; exact Nat.le_refl _)) _
      have hlr : j < ((fillI (fun _ => 120) N j).map (Value.int .u8)).length := by rw [List.length_map, fill_len]; omega
      have hcz : ∃ u, wr.cell? ⟨G, j, none⟩ = some u := ⟨_, by rw [HO.out.cellAt j (by omega), List.getElem?_eq_getElem hlr]⟩
      obtain ⟨u, hcz⟩ := hcz
      have hfz : wr.frozen? ⟨G, j, none⟩ = false := HO.out.frozenAt _
      have HSt := Lib.hid hst; have HKn := Lib.hid hkn
      clear hst hkn hlr
      go_wp2
      go_roundw
      case rel => exact ⟨j + 1, by go_num, by omega, HSt, HKn⟩
      case measure => simp [intOf]; omega
    · have hjN : j = N := by omega
      subst hjN
      have hrd : Reads wr (some ⟨G, 0, none⟩) (fillI (fun _ => 120) j j) := own_reads (n := j) (cap := j) (by rw [fill_len]; exact HO.out) (fill_len _ _ _).symm
      have HR1 := Lib.hid hrd
      obtain ⟨w3, hw3⟩ : ∃ w3, w3 = wr := ⟨_, rfl⟩
      rw [← hw3] at HR1 HK ⊢
      clear hrd HO hw3
      go_wp2_with (at_make; refine wpList_make_full _ rfl _ _ _ rfl 0 5 i0 (.int .u8 0) 1 Tryd.underlying22 hi hz0 hz1 .i64 .i64 _ _ M rfl rfl rfl rfl (by rw [hz2]; omega) (by unfold maxLen; omega) (Nat.zero_le _) ?_)
      intro w4 hown hgrow
      obtain ⟨G2, hG2⟩ : ∃ G2, G2 = w3.heap.size := ⟨_, rfl⟩
      rw [← hG2] at hown ⊢
      have hown0 : w4.ownsRow 0 5 1 (.slice (some ⟨G2, 0, none⟩) M M) M ((fillI gI M 0).map (.int .u8)) := by
        rw [fill_zero, List.map_replicate, ← toList_madeCells_one]
        exact hown
      have HO4 := Lib.hid hown0; have HK4 := Lib.hid ((Kept.refl NoB w3).grown hgrow (fun _ _ e => by cases e)); have HG2 := Lib.hid hG2
      clear hown hgrow hown0 hG2
      go_wp2
      go_loopw [34, 8] (fun v34 v8 wr => ∃ k : Nat, v34 = .int .i64 (k : Int) ∧ k ≤ M ∧ Hid (wr.ownsRow 0 5 1 (.slice (some ⟨G2, 0, none⟩) M M) M ((fillI gI M k).map (.int .u8))) ∧ Hid (Kept NoB w3 wr)) (fun v34 _ _ => M - (intOf v34).toNat)
      case atStart => exact ⟨0, rfl, by omega, HO4, HK4⟩
      case round =>
        obtain ⟨k, rfl, hk, HO, HKr⟩ := hrel
        by_cases hlt : (k : Int) < M
        · have hlr : k < ((fillI gI M k).map (Value.int .u8)).length := by rw [List.length_map, fill_len]; omega
          have hcz : ∃ u, wr.cell? ⟨G2, k, none⟩ = some u := ⟨_, by rw [HO.out.cellAt k (by omega), List.getElem?_eq_getElem hlr]⟩
          obtain ⟨u, hcz⟩ := hcz
          have hfz : wr.frozen? ⟨G2, k, none⟩ = false := HO.out.frozenAt _
          have hs1 := (HO.out.stored k (.int .u8 121)).1
          have hk1 : Kept NoB w3 (wr.setCell ⟨G2, k, none⟩ (.int .u8 121)) := Kept.setCell (p := ⟨G2, k, none⟩) HKr.out (.inr (show w3.heap.size ≤ G2 by rw [HG2.out]; exact Nat.le_refl _)) _
          have HS1 := Lib.hid hs1; have HK1 := Lib.hid hk1
          clear hs1 hk1
          by_cases h99 : k % 100 = 99
          · have hrem : ((k : Int) % 100 == 99) = true := by simp; omega
            have hlr2 : k < (((fillI gI M k).map (Value.int .u8)).set k (.int .u8 121)).length := by rw [List.length_set]; exact hlr
            have hcz2 : ∃ u, (wr.setCell ⟨G2, k, none⟩ (.int .u8 121)).cell? ⟨G2, k, none⟩ = some u := ⟨_, by rw [HS1.out.cellAt k (by omega), List.getElem?_eq_getElem hlr2]⟩
            obtain ⟨u2, hcz2⟩ := hcz2
            have hfz2 : (wr.setCell ⟨G2, k, none⟩ (.int .u8 121)).frozen? ⟨G2, k, none⟩ = false := HS1.out.frozenAt _
            have hst : ((wr.setCell ⟨G2, k, none⟩ (.int .u8 121)).setCell ⟨G2, k, none⟩ (.int .u8 47)).ownsRow 0 5 1 (.slice (some ⟨G2, 0, none⟩) M M) M ((fillI gI M (k + 1)).map (.int .u8)) := by
              have := (HS1.out.stored k (.int .u8 47)).1
              rw [List.set_set] at this
              rw [← fill_set, List.map_set, show gI k = 47 by rw [gI, if_pos h99]]
              exact this
            have hkn : Kept NoB w3 ((wr.setCell ⟨G2, k, none⟩ (.int .u8 121)).setCell ⟨G2, k, none⟩ (.int .u8 47)) := Kept.setCell (p := ⟨G2, k, none⟩) HK1.out (.inr (show w3.heap.size ≤ G2 by rw [HG2.out]; exact Nat.le_refl _)) _
            have HSt := Lib.hid hst; have HKn := Lib.hid hkn
            clear hst hkn hlr hlr2 h99
            go_wp2
            go_roundw
            case rel => exact ⟨k + 1, by go_num, by omega, HSt, HKn⟩
            case measure => simp [intOf]; omega
          · have hrem : ((k : Int) % 100 == 99) = false := by simp; omega
            have hst : (wr.setCell ⟨G2, k, none⟩ (.int .u8 121)).ownsRow 0 5 1 (.slice (some ⟨G2, 0, none⟩) M M) M ((fillI gI M (k + 1)).map (.int .u8)) := by
              rw [← fill_set, List.map_set, show gI k = 121 by rw [gI, if_neg h99]]
              exact HS1.out
            have HSt := Lib.hid hst
            clear hst hlr h99
            go_wp2
            go_roundw
            case rel => exact ⟨k + 1, by go_num, by omega, HSt, HK1⟩
            case measure => simp [intOf]; omega
        · have hkM : k = M := by omega
          subst hkM
          have hrd2 : Reads wr (some ⟨G2, 0, none⟩) (fillI gI k k) := own_reads (n := k) (cap := k) (by rw [fill_len]; exact HO.out) (fill_len _ _ _).symm
          have hc1 := bounds_conv1 HR1.out
          have hc2 := bounds_conv2 hrd2
          obtain ⟨XS, hXS⟩ : ∃ X, X = strB (List.replicate j 120) := ⟨_, rfl⟩
          obtain ⟨XP, hXP⟩ : ∃ X, X = strB ((List.range k).map yf) := ⟨_, rfl⟩
          rw [← hXS] at hc1
          rw [← hXP] at hc2
          have hzs : XS.size ≤ 300 := by rw [hXS, strB_size]; simp; omega
          have hcat : (⟨#[97, 47]⟩ : ByteArray) ++ XS = strB (97 :: 47 :: List.replicate j 120) := by
            rw [hXS]; exact ByteArray.mk_append_mk [97, 47] (List.replicate j 120)
          have had := fun W => run_string_add_sum (P := Tryd.prog) W ⟨#[97, 47]⟩ XS (by show 2 + XS.size ≤ _; omega)
          rw [hcat] at had
          obtain ⟨XA, hXA⟩ : ∃ X, X = strB (97 :: 47 :: List.replicate j 120) := ⟨_, rfl⟩
          rw [← hXA] at had
          obtain ⟨e1, HP1, he1⟩ := bounds_p1 j hN1
          obtain ⟨e2, HP2, he2⟩ := bounds_p2 k hM1
          have hO : ∀ W, Calls Tryd.prog 7 #[.string XS] W fun e w' => e = .returned (.bool (decide (j ≤ 255))) ∧ Below W.heap.size W w' := fun W => by
            have := ok_calls XS W (by omega)
            rw [hXS] at this ⊢
            rwa [show okN (strB (List.replicate j 120)) = decide (j ≤ 255) from okP_rep 120 j (by omega) (by decide)] at this
          rw [← hXA] at HP1
          rw [← hXP] at HP2
          have HO1 := Lib.hid hO
          have HC1 := Lib.hid hc1; have HC2 := Lib.hid hc2; have HQ1 := Lib.hid HP1; have HQ2 := Lib.hid HP2
          have k0 := hc1 wr HKr.out
          clear hc1 hc2 hO HP1 HP2 hcat hXA hXS hXP hrd2 HO hzs hlt
          go_wp2_with fail
          refine (HQ1.out _).mono ?_
          rintro e w5 ⟨ao1, q1, c1, rfl, hb5⟩
          have hk5 := Below.k hb5
          have k1 := HC2.out w5 hk5
          have HK5 := Lib.hid hk5
          clear k0 hk5 hb5
          go_wp2_with fail
          refine (HQ2.out _).mono ?_
          rintro e w6 ⟨ao2, q2, c2, rfl, hq2, hb6⟩
          have hk6 := HK5.out.trans (Below.k hb6)
          have k2 := HC1.out w6 (HKr.out.trans hk6)
          have HB6 := Lib.hid (HK.out.trans (HKr.out.trans hk6))
          clear k1 hk6 hb6
          rcases he1 with ⟨hj1, rfl⟩ | ⟨hj1, rfl⟩
          · have hdj : decide (j ≤ 255) = true := decide_eq_true hj1
            have hji : (j : Int) ≤ 255 := by omega
            rcases he2 with ⟨hk1, rfl⟩ | ⟨hk1, rfl⟩
            · have hki : (k : Int) ≤ 4096 := by omega
              have hq3 := hq2 hk1
              subst hq3
              clear hq2
              go_wp2_with fail
              refine (HO1.out _).mono ?_
              rintro e w7 ⟨rfl, hb7⟩
              rw [hdj]
              have HB7 := Lib.hid (HB6.out.trans (Below.k hb7))
              clear hb7
              go_wp2_with fail
              refine (ok_no0 _).mono ?_
              rintro e w8 ⟨rfl, hb8⟩
              have HB8 := Lib.hid (HB7.out.trans (Below.k hb8))
              clear hb8
              go_wp2_with fail
              refine (ok_no1 _).mono ?_
              rintro e w9 ⟨rfl, hb9⟩
              have HB9 := Lib.hid (HB8.out.trans (Below.k hb9))
              clear hb9
              go_wp2_with fail
              refine (ok_no2 _).mono ?_
              rintro e w10 ⟨rfl, hb10⟩
              have HB10 := Lib.hid (HB9.out.trans (Below.k hb10))
              clear hb10
              go_wp2_with fail
              refine (awake_any _).mono ?_
              rintro e w11 ⟨rfl, hb11⟩
              have HB11 := Lib.hid (HB10.out.trans (Below.k hb11))
              clear hb11
              go_wp2
              go_ret
              exact ⟨congrArg (fun b => Ending.returned (Value.bool b)) (by first | rfl | (simp; omega)), HB11.out.b⟩
            · have hki : ¬ (k : Int) ≤ 4096 := by omega
              clear hq2
              go_wp2_with fail
              refine (HO1.out _).mono ?_
              rintro e w7 ⟨rfl, hb7⟩
              rw [hdj]
              have HB7 := Lib.hid (HB6.out.trans (Below.k hb7))
              clear hb7
              go_wp2_with fail
              refine (ok_no0 _).mono ?_
              rintro e w8 ⟨rfl, hb8⟩
              have HB8 := Lib.hid (HB7.out.trans (Below.k hb8))
              clear hb8
              go_wp2_with fail
              refine (ok_no1 _).mono ?_
              rintro e w9 ⟨rfl, hb9⟩
              have HB9 := Lib.hid (HB8.out.trans (Below.k hb9))
              clear hb9
              go_wp2_with fail
              refine (ok_no2 _).mono ?_
              rintro e w10 ⟨rfl, hb10⟩
              have HB10 := Lib.hid (HB9.out.trans (Below.k hb10))
              clear hb10
              go_wp2_with fail
              refine (awake_any _).mono ?_
              rintro e w11 ⟨rfl, hb11⟩
              have HB11 := Lib.hid (HB10.out.trans (Below.k hb11))
              clear hb11
              go_wp2
              go_ret
              exact ⟨congrArg (fun b => Ending.returned (Value.bool b)) (by first | rfl | (simp; omega)), HB11.out.b⟩
          · have hdj : decide (j ≤ 255) = false := decide_eq_false hj1
            have hji : ¬ (j : Int) ≤ 255 := by omega
            rcases he2 with ⟨hk1, rfl⟩ | ⟨hk1, rfl⟩
            · have hki : (k : Int) ≤ 4096 := by omega
              have hq3 := hq2 hk1
              subst hq3
              clear hq2
              go_wp2_with fail
              refine (HO1.out _).mono ?_
              rintro e w7 ⟨rfl, hb7⟩
              rw [hdj]
              have HB7 := Lib.hid (HB6.out.trans (Below.k hb7))
              clear hb7
              go_wp2_with fail
              refine (ok_no0 _).mono ?_
              rintro e w8 ⟨rfl, hb8⟩
              have HB8 := Lib.hid (HB7.out.trans (Below.k hb8))
              clear hb8
              go_wp2_with fail
              refine (ok_no1 _).mono ?_
              rintro e w9 ⟨rfl, hb9⟩
              have HB9 := Lib.hid (HB8.out.trans (Below.k hb9))
              clear hb9
              go_wp2_with fail
              refine (ok_no2 _).mono ?_
              rintro e w10 ⟨rfl, hb10⟩
              have HB10 := Lib.hid (HB9.out.trans (Below.k hb10))
              clear hb10
              go_wp2_with fail
              refine (awake_any _).mono ?_
              rintro e w11 ⟨rfl, hb11⟩
              have HB11 := Lib.hid (HB10.out.trans (Below.k hb11))
              clear hb11
              go_wp2
              go_ret
              exact ⟨congrArg (fun b => Ending.returned (Value.bool b)) (by first | rfl | (simp; omega)), HB11.out.b⟩
            · have hki : ¬ (k : Int) ≤ 4096 := by omega
              clear hq2
              go_wp2_with fail
              refine (HO1.out _).mono ?_
              rintro e w7 ⟨rfl, hb7⟩
              rw [hdj]
              have HB7 := Lib.hid (HB6.out.trans (Below.k hb7))
              clear hb7
              go_wp2_with fail
              refine (ok_no0 _).mono ?_
              rintro e w8 ⟨rfl, hb8⟩
              have HB8 := Lib.hid (HB7.out.trans (Below.k hb8))
              clear hb8
              go_wp2_with fail
              refine (ok_no1 _).mono ?_
              rintro e w9 ⟨rfl, hb9⟩
              have HB9 := Lib.hid (HB8.out.trans (Below.k hb9))
              clear hb9
              go_wp2_with fail
              refine (ok_no2 _).mono ?_
              rintro e w10 ⟨rfl, hb10⟩
              have HB10 := Lib.hid (HB9.out.trans (Below.k hb10))
              clear hb10
              go_wp2_with fail
              refine (awake_any _).mono ?_
              rintro e w11 ⟨rfl, hb11⟩
              have HB11 := Lib.hid (HB10.out.trans (Below.k hb11))
              clear hb11
              go_wp2
              go_ret
              exact ⟨congrArg (fun b => Ending.returned (Value.bool b)) (by first | rfl | (simp; omega)), HB11.out.b⟩
