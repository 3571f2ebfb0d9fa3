/-
  HuffEven: weights that are alike have lengths that are alike; a greater weight has no longer one.
-/
import Derived.Test.YtngllecfhkgckaaLawHuffLimits
namespace Go.Proofs.Ytngllecfhkgckaa
open Go.RowKit
set_option linter.unusedVariables false
set_option linter.unusedSimpArgs false

set_option maxRecDepth 20000 in
set_option maxHeartbeats 8000000 in
theorem huffEven_walk (k wt : Int) (ao : Option Addr) (ca : Nat) (ws : List Int) (w : World) (hx : RdI w w.heap.size ao ws) :
    Calls Try.prog 6 #[.int .i64 k, .int .i64 wt, .slice ao ws.length ca] w fun e w' => e = .returned (.bool true) ∧ Below w.heap.size w w' := by
  have HX := Lib.hid hx; have HAw := Lib.hid awake_any
  have m1 := mask65535
  have m2 := mask7
  obtain ⟨i0, hi, hz0, hz1, hz2⟩ := info_parts infoI
  obtain ⟨n, hn⟩ : ∃ n, n = ws.length := ⟨_, rfl⟩
  have HN := Lib.hid hn
  rw [← hn]
  obtain ⟨K, hK⟩ : ∃ K : Nat, k % 8 + 1 = (K : Int) := ⟨(k % 8 + 1).toNat, by omega⟩
  have hK8 : 1 ≤ K ∧ K ≤ 8 := by omega
  have e0 : IntKind.i64.wrap (k % 8 + 1) = (K : Int) := by rw [IntWalk.i64_in _ (by omega)]; exact hK
  obtain ⟨x, hxe⟩ : ∃ x : Int, wt % 65536 + 1 = x := ⟨_, rfl⟩
  have hx1 : 1 ≤ x ∧ x ≤ 65536 := by omega
  have e00 : IntKind.i64.wrap (wt % 65536 + 1) = x := by rw [IntWalk.i64_in _ (by omega)]; exact hxe
  obtain ⟨P, hP⟩ : ∃ P, P = 2 ^ K := ⟨_, rfl⟩
  have hP1 : 2 ≤ P := by rw [hP]; exact pow_two_ge K hK8.1
  have hP2 : P ≤ 256 := by
    rw [hP]
    have := Nat.pow_le_pow_right (n := 2) (by decide) hK8.2
    simpa using this
  have e1 : wrap64 ((2 : Int) ^ K) = (P : Int) := by rw [hP]; exact wrap_pow15 K (by omega)
  obtain ⟨A, hA⟩ : ∃ A, A = List.replicate P x := ⟨_, rfl⟩
  have hAl : A.length = P := by rw [hA]; simp
  have hAs : ∀ i, i < P → A.take (i + 1) = A.take i ++ [x] := by
    intro i hi'
    rw [List.take_succ_eq_append_getElem (by rw [hAl]; exact hi')]
    congr 1
    simp [hA]
  obtain ⟨Q, hQ⟩ : ∃ Q, Q = min n 60 := ⟨_, rfl⟩
  obtain ⟨B, hB⟩ : ∃ B, B = (List.range Q).map (fun i => ws.getD i 0 % 65536) := ⟨_, rfl⟩
  have hBl : B.length = Q := by rw [hB]; simp
  have hBb : Small 1000000 B := by
    intro z hz
    rw [hB] at hz
    obtain ⟨i, hi, e⟩ := List.mem_map.1 hz
    rw [← e]
    omega
  have hQ60 : Q ≤ 60 := by omega
  have HP := Lib.hid hP; have HA := Lib.hid hA; have HAl := Lib.hid hAl; have HAs := Lib.hid hAs; have HB := Lib.hid hB; have HBl := Lib.hid hBl; have HBb := Lib.hid hBb; have HQ := Lib.hid hQ
  clear hx hn hK hP hA hAl hAs hB hBl hBb hQ hxe
  go_enter Try.func6, Try.ntmps6
  go_wp2
  go_loopw [8, 7] (fun v8 v7 wr => ∃ (i : Nat) (a7 : Option Addr) (c7 : Nat), v8 = .int .i64 (i : Int) ∧ v7 = .slice a7 i c7 ∧ i ≤ P ∧ Hid (IntSt w wr a7 i c7 (A.take i))) (fun v8 _ _ => P - (intOf v8).toNat)
  case atStart => exact ⟨0, none, 0, rfl, rfl, by omega, Lib.hid (IntSt.nil w)⟩
  case round =>
    clear e0 e00
    obtain ⟨i, a7, c7, rfl, rfl, hiP, HS⟩ := hrel
    by_cases hlt : (i : Int) < P
    · have HSt := Lib.hid (HAs.out i (by omega))
      have hrow := HS.out.own
      obtain ⟨cs, hcs⟩ : ∃ cs, cs = (A.take i).map (Value.int .i64) := ⟨_, rfl⟩
      rw [← hcs] at hrow
      have HRow := Lib.hid (hrow.alloc (.cells #[.int .i64 (x)] 3)); have HCs := Lib.hid hcs
      clear hrow hcs
      go_wp2_with (at_builtin; refine wpList_app _ rfl _ _ 22 rfl 3 i0 (.int .i64 0) 1 8 Try.underlying22 hi hz0 hz1 hz2 rfl (by decide) _ i cs rfl HRow.out ⟨wr.heap.size, 0, none⟩ 1 1 [.int .i64 (x)] rfl rfl (cell_one_new _ _ _) ?d2 ?d3 ?d4 ?_)
      case d2 => first | rfl | (intro u hu; simp at hu; subst hu; rfl)
      case d3 => unfold maxLen; omega
      case d4 => omega
      intro v' w2 hown' hgrow hnew
      obtain ⟨a2, c2, rfl⟩ := own_shape2 hown'
      rw [HCs.out] at hown'
      have hs2 := HS.out.app hown' hgrow hnew
      rw [← HSt.out] at hs2
      have HS2 := Lib.hid hs2
      clear hown' hgrow hnew hs2
      go_wp2
      go_roundw
      case rel => exact ⟨i + 1, a2, c2, by go_num, rfl, by omega, HS2⟩
      case measure => simp [intOf]; omega
    · have hiP2 : i = P := by omega
      subst hiP2
      have hsa := HS.out
      rw [List.take_of_length_le (by rw [HAl.out]; exact Nat.le_refl _)] at hsa
      have hl1 : Calls Try.prog 8 #[.slice a7 i c7, .int .i64 15] wr fun e w' => ∃ a c Z, (∀ p, p < i → Z.getD p 0 = (K : Int)) ∧ Z.length = i ∧ e = .returned (.tuple #[.slice a i c, .int .i64 0]) ∧ RdI w' w'.heap.size a Z ∧ Kept NoB wr w' := by
        have hpos : ∀ z ∈ A, 0 < z := fun z hz => by rw [HA.out] at hz; rw [List.eq_of_mem_replicate hz]; omega
        have hok : LensOkP A 15 := ⟨by rw [HAl.out]; omega, by omega, fun z hz => by rw [HA.out] at hz; rw [List.eq_of_mem_replicate hz]; omega, by
          have := leaves_len A 0
          rw [HAl.out] at this
          have h2 : (2 : Nat) ^ (15 : Int).toNat = 32768 := by decide
          rw [h2]; omega⟩
        have hcall := lens_yes a7 c7 _ A 15 wr hsa.reads hok
        rw [HAl.out] at hcall
        refine hcall.mono ?_
        rintro e w' ⟨lv, hs, hL⟩
        have hF := lensF A 15 lv hok hs
        rw [HAl.out] at hF
        obtain ⟨aa, c, h1, h2, h3⟩ := hL.reads2 (n := i) (by rw [hF.len, HAl.out])
        have hAr : A = List.replicate (2 ^ K) x := by rw [HA.out, HP.out]
        rw [hAr] at hs hF
        refine ⟨aa, c, _, fun p hp => even_all K x hK8 ⟨by omega, by omega⟩ hs hF p (by rw [← HP.out]; exact hp), ?_, h1, h2, h3⟩
        rw [hF.len, List.length_replicate, HP.out]
      have HL1 := Lib.hid hl1; have HSk := Lib.hid hsa.kept
      clear hsa hl1 HS HA HAs HAl
      go_wp2_with fail
      refine HL1.out.mono ?_
      rintro e w2 ⟨a9, c9, Z, hZ, hZl, rfl, hr, hk⟩
      have HZ := Lib.hid hZ; have HZl := Lib.hid hZl; have HR9 := Lib.hid hr; have HK2 := Lib.hid (HSk.out.trans hk)
      clear hZ hZl hr hk HL1 HSk
      go_wp2
      go_loopw [11] (fun v11 w3 => ∃ j : Nat, v11 = .int .i64 (j : Int) ∧ j ≤ i ∧ w2 = w3) (fun v11 _ => i - (intOf v11).toNat)
      case atStart => exact ⟨0, rfl, by omega, rfl⟩
      case round =>
        obtain ⟨j, rfl, hji, rfl⟩ := hrel
        by_cases hlt3 : (j : Int) < i
        · obtain ⟨g, off, rfl, _, hc⟩ := HR9.out j (by rw [HZl.out]; omega)
          rw [HZ.out j (by omega)] at hc
          go_wp2
          go_roundw
          case rel => exact ⟨j + 1, by go_num, by omega, by first | trivial | rfl⟩
          case measure => simp [intOf]; omega
        · clear HZ HZl HR9 hji
          rename World => W2
          go_wp2
          go_loopw [13, 12] (fun v13 v12 wr => ∃ (s : Nat) (a12 : Option Addr) (c12 : Nat), v13 = .int .i64 (s : Int) ∧ v12 = .slice a12 s c12 ∧ s ≤ Q ∧ Hid (IntSt W2 wr a12 s c12 (B.take s))) (fun v13 _ _ => Q - (intOf v13).toNat)
          case atStart => exact ⟨0, none, 0, rfl, rfl, by omega, Lib.hid (IntSt.nil W2)⟩
          case round =>
            obtain ⟨s, a12, c12, rfl, rfl, hsQ, HS⟩ := hrel
            by_cases hlt4 : s < Q
            · have hin : (s : Int) < n := by have := HQ.out; omega
              have hi60 : (s : Int) < 60 := by omega
              have hst := range_take (fun i => ws.getD i 0 % 65536) Q s hlt4
              rw [← HB.out] at hst
              obtain ⟨g, off, rfl, _, hc0⟩ := HX.out s (by have := HN.out; omega)
              have hc := HS.out.kept.cell (HK2.out.cell hc0)
              obtain ⟨z, hz⟩ : ∃ z, z = ws.getD s 0 := ⟨_, rfl⟩
              rw [← hz] at hc hst
              have HSt := Lib.hid hst
              clear hc0 hz hst
              have hrow := HS.out.own
              obtain ⟨cs, hcs⟩ : ∃ cs, cs = (B.take s).map (Value.int .i64) := ⟨_, rfl⟩
              rw [← hcs] at hrow
              have HRow := Lib.hid (hrow.alloc (.cells #[.int .i64 (z % 65536)] 3)); have HCs := Lib.hid hcs
              clear hrow hcs
              go_wp2_with (at_builtin; refine wpList_app _ rfl _ _ 22 rfl 3 i0 (.int .i64 0) 1 8 Try.underlying22 hi hz0 hz1 hz2 rfl (by decide) _ s cs rfl HRow.out ⟨wr.heap.size, 0, none⟩ 1 1 [.int .i64 (z % 65536)] rfl rfl (cell_one_new _ _ _) ?d2 ?d3 ?d4 ?_)
              case d2 => first | rfl | (intro u hu; simp at hu; subst hu; rfl)
              case d3 => unfold maxLen; omega
              case d4 => omega
              intro v' w2 hown' hgrow hnew
              obtain ⟨a2, c2, rfl⟩ := own_shape2 hown'
              rw [HCs.out] at hown'
              have hs2 := HS.out.app hown' hgrow hnew
              rw [← HSt.out] at hs2
              have HS2 := Lib.hid hs2
              clear hown' hgrow hnew hs2
              go_wp2
              go_roundw
              case rel => exact ⟨s + 1, a2, c2, by go_num, rfl, by omega, HS2⟩
              case measure => simp [intOf]; omega
            · have hsQ2 : s = Q := by omega
              subst hsQ2
              have g1 : ((s : Int) < n ∧ ¬ (s : Int) < 60) ∨ ¬ (s : Int) < n := by have := HQ.out; omega
              rcases g1 with ⟨g1, g2⟩ | g1
              · skip
                have hsb := HS.out
                rw [List.take_of_length_le (by rw [HBl.out]; exact Nat.le_refl _)] at hsb
                have hl3 : Calls Try.prog 8 #[.slice a12 s c12, .int .i64 15] wr fun e w' => ∃ a c Z, (∀ p q, p < s → q < s → 0 < B.getD q 0 → B.getD q 0 < B.getD p 0 → Z.getD p 0 ≤ Z.getD q 0) ∧ Z.length = s ∧ e = .returned (.tuple #[.slice a s c, .int .i64 0]) ∧ RdI w' w'.heap.size a Z ∧ Kept NoB wr w' := by
                  have hok : LensOkP B 15 := ⟨by rw [HBl.out]; omega, by omega, HBb.out, by
                    have := leaves_len B 0
                    rw [HBl.out] at this
                    have h2 : (2 : Nat) ^ (15 : Int).toNat = 32768 := by decide
                    rw [h2]; omega⟩
                  have hcall := lens_yes a12 c12 _ B 15 wr hsb.reads hok
                  rw [HBl.out] at hcall
                  refine hcall.mono ?_
                  rintro e w' ⟨lv, hs, hL⟩
                  have hF := lensF B 15 lv hok hs
                  rw [HBl.out] at hF
                  obtain ⟨aa, c, h1, h2, h3⟩ := hL.reads2 (n := s) (by rw [hF.len, HBl.out])
                  exact ⟨aa, c, _, fun p q hp hq => hF.anti p q (by rw [HBl.out]; exact hp) (by rw [HBl.out]; exact hq), by rw [hF.len, HBl.out], h1, h2, h3⟩
                have HL3 := Lib.hid hl3; have HSb := Lib.hid hsb
                clear hsb hl3 HS
                go_wp2_with fail
                refine HL3.out.mono ?_
                rintro e w4 ⟨a14, c14, Y, hY, hYl, rfl, hr, hk⟩
                have HY := Lib.hid hY; have HYl := Lib.hid hYl; have HR14 := Lib.hid hr; have HRb := Lib.hid (HSb.out.reads.keptNo hk); have HK4 := Lib.hid (HK2.out.trans (HSb.out.kept.trans hk))
                clear hY hYl hr hk HL3 HSb
                go_wp2
                go_loopw [16, 17] (fun v16 _v17 w5 => ∃ u : Nat, v16 = .int .i64 (u : Int) ∧ u ≤ s ∧ Hid (Kept NoB w4 w5)) (fun v16 _ _ => s - (intOf v16).toNat)
                case atStart => exact ⟨0, rfl, by omega, Kept.refl _ _⟩
                case round =>
                  obtain ⟨u, rfl, hus, HKu⟩ := hrel
                  by_cases hlt5 : (u : Int) < s
                  · go_wp2
                    go_loopw [17] (fun v17 w6 => ∃ t : Nat, v17 = .int .i64 (t : Int) ∧ t ≤ s ∧ Hid (Kept NoB w4 w6)) (fun v17 _ => s - (intOf v17).toNat)
                    case atStart => exact ⟨0, rfl, by omega, HKu⟩
                    case round =>
                      obtain ⟨t, rfl, hts, HKs⟩ := hrel
                      by_cases hlt6 : (t : Int) < s
                      · obtain ⟨g1, o1, rfl, _, x0⟩ := HRb.out u (by rw [HBl.out]; omega)
                        obtain ⟨g2, o2, he2, _, x1⟩ := HRb.out t (by rw [HBl.out]; omega)
                        cases he2
                        obtain ⟨g3, o3, rfl, _, y0⟩ := HR14.out u (by rw [HYl.out]; omega)
                        obtain ⟨g4, o4, he4, _, y1⟩ := HR14.out t (by rw [HYl.out]; omega)
                        cases he4
                        have d0 := HKs.out.cell x0
                        have d1 := HKs.out.cell x1
                        have d2 := HKs.out.cell y0
                        have d3 := HKs.out.cell y1
                        have hord := HY.out u t (by omega) (by omega)
                        obtain ⟨bu, hbu⟩ : ∃ z, z = B.getD u 0 := ⟨_, rfl⟩
                        obtain ⟨bt, hbt⟩ : ∃ z, z = B.getD t 0 := ⟨_, rfl⟩
                        obtain ⟨yu, hyu⟩ : ∃ z, z = Y.getD u 0 := ⟨_, rfl⟩
                        obtain ⟨yt, hyt⟩ : ∃ z, z = Y.getD t 0 := ⟨_, rfl⟩
                        rw [← hbu] at d0 hord
                        rw [← hbt] at d1 hord
                        rw [← hyu] at d2 hord
                        rw [← hyt] at d3 hord
                        clear hbu hbt hyu hyt x0 x1 y0 y1
                        by_cases c1 : bt < bu
                        · have q1 : decide (bt < bu) = true := decide_eq_true c1
                          by_cases c2 : 0 < bt
                          · have q2 : decide (0 < bt) = true := decide_eq_true c2
                            have q3 : decide (yt < yu) = false := decide_eq_false (by have := hord c2 c1; omega)
                            clear hord
                            go_upto_region 29 with fail
                            go_quiet (fail)
                            have HKq := Lib.hid (HKs.out.drewN nq)
                            go_wp2
                            go_roundw
                            case rel => exact ⟨t + 1, by go_num, by omega, HKq⟩
                            case measure => simp [intOf]; omega
                          · have q2 : decide (0 < bt) = false := decide_eq_false c2
                            clear hord
                            go_upto_region 29 with fail
                            go_quiet (fail)
                            have HKq := Lib.hid (HKs.out.drewN nq)
                            go_wp2
                            go_roundw
                            case rel => exact ⟨t + 1, by go_num, by omega, HKq⟩
                            case measure => simp [intOf]; omega
                        · have q1 : decide (bt < bu) = false := decide_eq_false c1
                          clear hord
                          go_upto_region 29 with fail
                          go_quiet (fail)
                          have HKq := Lib.hid (HKs.out.drewN nq)
                          go_wp2
                          go_roundw
                          case rel => exact ⟨t + 1, by go_num, by omega, HKq⟩
                          case measure => simp [intOf]; omega
                      · go_wp2
                        go_roundw
                        case rel => exact ⟨u + 1, by go_num, by omega, HKs⟩
                        case measure => simp [intOf]; omega
                  · go_wp2_with fail
                    refine (HAw.out _).mono ?_
                    rintro e w9 ⟨rfl, hk⟩
                    have HKz := Lib.hid (HK4.out.trans (HKu.out.trans hk))
                    clear hk
                    go_wp2
                    go_ret
                    exact ⟨rfl, HKz.out.belowNo (Below.refl _ _)⟩
              · skip
                have hsb := HS.out
                rw [List.take_of_length_le (by rw [HBl.out]; exact Nat.le_refl _)] at hsb
                have hl3 : Calls Try.prog 8 #[.slice a12 s c12, .int .i64 15] wr fun e w' => ∃ a c Z, (∀ p q, p < s → q < s → 0 < B.getD q 0 → B.getD q 0 < B.getD p 0 → Z.getD p 0 ≤ Z.getD q 0) ∧ Z.length = s ∧ e = .returned (.tuple #[.slice a s c, .int .i64 0]) ∧ RdI w' w'.heap.size a Z ∧ Kept NoB wr w' := by
                  have hok : LensOkP B 15 := ⟨by rw [HBl.out]; omega, by omega, HBb.out, by
                    have := leaves_len B 0
                    rw [HBl.out] at this
                    have h2 : (2 : Nat) ^ (15 : Int).toNat = 32768 := by decide
                    rw [h2]; omega⟩
                  have hcall := lens_yes a12 c12 _ B 15 wr hsb.reads hok
                  rw [HBl.out] at hcall
                  refine hcall.mono ?_
                  rintro e w' ⟨lv, hs, hL⟩
                  have hF := lensF B 15 lv hok hs
                  rw [HBl.out] at hF
                  obtain ⟨aa, c, h1, h2, h3⟩ := hL.reads2 (n := s) (by rw [hF.len, HBl.out])
                  exact ⟨aa, c, _, fun p q hp hq => hF.anti p q (by rw [HBl.out]; exact hp) (by rw [HBl.out]; exact hq), by rw [hF.len, HBl.out], h1, h2, h3⟩
                have HL3 := Lib.hid hl3; have HSb := Lib.hid hsb
                clear hsb hl3 HS
                go_wp2_with fail
                refine HL3.out.mono ?_
                rintro e w4 ⟨a14, c14, Y, hY, hYl, rfl, hr, hk⟩
                have HY := Lib.hid hY; have HYl := Lib.hid hYl; have HR14 := Lib.hid hr; have HRb := Lib.hid (HSb.out.reads.keptNo hk); have HK4 := Lib.hid (HK2.out.trans (HSb.out.kept.trans hk))
                clear hY hYl hr hk HL3 HSb
                go_wp2
                go_loopw [16, 17] (fun v16 _v17 w5 => ∃ u : Nat, v16 = .int .i64 (u : Int) ∧ u ≤ s ∧ Hid (Kept NoB w4 w5)) (fun v16 _ _ => s - (intOf v16).toNat)
                case atStart => exact ⟨0, rfl, by omega, Kept.refl _ _⟩
                case round =>
                  obtain ⟨u, rfl, hus, HKu⟩ := hrel
                  by_cases hlt5 : (u : Int) < s
                  · go_wp2
                    go_loopw [17] (fun v17 w6 => ∃ t : Nat, v17 = .int .i64 (t : Int) ∧ t ≤ s ∧ Hid (Kept NoB w4 w6)) (fun v17 _ => s - (intOf v17).toNat)
                    case atStart => exact ⟨0, rfl, by omega, HKu⟩
                    case round =>
                      obtain ⟨t, rfl, hts, HKs⟩ := hrel
                      by_cases hlt6 : (t : Int) < s
                      · obtain ⟨g1, o1, rfl, _, x0⟩ := HRb.out u (by rw [HBl.out]; omega)
                        obtain ⟨g2, o2, he2, _, x1⟩ := HRb.out t (by rw [HBl.out]; omega)
                        cases he2
                        obtain ⟨g3, o3, rfl, _, y0⟩ := HR14.out u (by rw [HYl.out]; omega)
                        obtain ⟨g4, o4, he4, _, y1⟩ := HR14.out t (by rw [HYl.out]; omega)
                        cases he4
                        have d0 := HKs.out.cell x0
                        have d1 := HKs.out.cell x1
                        have d2 := HKs.out.cell y0
                        have d3 := HKs.out.cell y1
                        have hord := HY.out u t (by omega) (by omega)
                        obtain ⟨bu, hbu⟩ : ∃ z, z = B.getD u 0 := ⟨_, rfl⟩
                        obtain ⟨bt, hbt⟩ : ∃ z, z = B.getD t 0 := ⟨_, rfl⟩
                        obtain ⟨yu, hyu⟩ : ∃ z, z = Y.getD u 0 := ⟨_, rfl⟩
                        obtain ⟨yt, hyt⟩ : ∃ z, z = Y.getD t 0 := ⟨_, rfl⟩
                        rw [← hbu] at d0 hord
                        rw [← hbt] at d1 hord
                        rw [← hyu] at d2 hord
                        rw [← hyt] at d3 hord
                        clear hbu hbt hyu hyt x0 x1 y0 y1
                        by_cases c1 : bt < bu
                        · have q1 : decide (bt < bu) = true := decide_eq_true c1
                          by_cases c2 : 0 < bt
                          · have q2 : decide (0 < bt) = true := decide_eq_true c2
                            have q3 : decide (yt < yu) = false := decide_eq_false (by have := hord c2 c1; omega)
                            clear hord
                            go_upto_region 29 with fail
                            go_quiet (fail)
                            have HKq := Lib.hid (HKs.out.drewN nq)
                            go_wp2
                            go_roundw
                            case rel => exact ⟨t + 1, by go_num, by omega, HKq⟩
                            case measure => simp [intOf]; omega
                          · have q2 : decide (0 < bt) = false := decide_eq_false c2
                            clear hord
                            go_upto_region 29 with fail
                            go_quiet (fail)
                            have HKq := Lib.hid (HKs.out.drewN nq)
                            go_wp2
                            go_roundw
                            case rel => exact ⟨t + 1, by go_num, by omega, HKq⟩
                            case measure => simp [intOf]; omega
                        · have q1 : decide (bt < bu) = false := decide_eq_false c1
                          clear hord
                          go_upto_region 29 with fail
                          go_quiet (fail)
                          have HKq := Lib.hid (HKs.out.drewN nq)
                          go_wp2
                          go_roundw
                          case rel => exact ⟨t + 1, by go_num, by omega, HKq⟩
                          case measure => simp [intOf]; omega
                      · go_wp2
                        go_roundw
                        case rel => exact ⟨u + 1, by go_num, by omega, HKs⟩
                        case measure => simp [intOf]; omega
                  · go_wp2_with fail
                    refine (HAw.out _).mono ?_
                    rintro e w9 ⟨rfl, hk⟩
                    have HKz := Lib.hid (HK4.out.trans (HKu.out.trans hk))
                    clear hk
                    go_wp2
                    go_ret
                    exact ⟨rfl, HKz.out.belowNo (Below.refl _ _)⟩

theorem huffEven_law (v0 v1 v2 : Value) (w : World) (r0 : Arg w 3 v0) (r1 : Arg w 3 v1) (r2 : Arg w 22 v2) : Calls Try.prog 6 #[v0, v1, v2] w fun e w' => e = .returned (.bool true) ∧ Below w.heap.size w w' := by
  obtain ⟨a, rfl, _⟩ := r0.int rfl
  obtain ⟨b, rfl, _⟩ := r1.int rfl
  obtain ⟨ao, ca, ws, rfl, _, _, hx, _, _⟩ := r2.ints
  exact huffEven_walk a b ao ca ws w hx
end Go.Proofs.Ytngllecfhkgckaa
