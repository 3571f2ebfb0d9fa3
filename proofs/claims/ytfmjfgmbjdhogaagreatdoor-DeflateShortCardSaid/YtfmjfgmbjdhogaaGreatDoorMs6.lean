/-
  The library's stable sort at leaves: two rows in order made one.
  The library's stable sort at leaves: a short range put in order, a leaf after the other.
-/
import Derived.Test.YtfmjfgmbjdhogaaGreatDoorMs5
import Derived.Deep.DeepCutAuto
import Derived.Deep.CutBlock
namespace Go.Proofs.YtfmjfgmbjdhogaaGreatDoor
open Go.RowKit
set_option linter.unusedVariables false
set_option linter.unusedSimpArgs false

/-- Two rows in order, one behind the other, of N leaves at most, are made one. -/
def SymC (N : Nat) : Prop := ∀ (G n c a m b : Nat) (p L R q : List Lf) (w : World), b - a ≤ N → SrtSt G n c w w (p ++ (L ++ (R ++ q))) → p.length = a → a + L.length = m → m + R.length = b → 1 ≤ L.length → 1 ≤ R.length →
  L.Pairwise Bef → R.Pairwise Bef → Cross L R → n ≤ 1000 →
  Calls Tryz.prog 190 #[.slice (some ⟨G, 0, none⟩) n c, .int .i64 (a : Int), .int .i64 (m : Int), .int .i64 (b : Int), .func (.func 182) #[] #[]] w fun e w' => e = .returned (.tuple #[]) ∧ ∃ S, SrtP S (L ++ R) ∧ SrtSt G n c w w' (p ++ (S ++ q))

theorem perm_four (A B C D : List Lf) : ((A ++ C) ++ (B ++ D)).Perm ((A ++ B) ++ (C ++ D)) := by
  rw [List.append_assoc, List.append_assoc]
  refine List.Perm.append_left A ?_
  rw [← List.append_assoc, ← List.append_assoc]
  exact List.Perm.append_right D List.perm_append_comm

set_option maxRecDepth 20000 in
set_option maxHeartbeats 2000000 in
theorem sym_mid (N G n c a m b : Nat) (p L R q : List Lf) (w : World) (ih : SymC N) (hN : b - a ≤ N + 1) (h : SrtSt G n c w w (p ++ (L ++ (R ++ q)))) (ha : p.length = a) (hm : a + L.length = m) (hb : m + R.length = b) (h1 : 2 ≤ L.length) (h2 : 2 ≤ R.length)
    (hL : L.Pairwise Bef) (hR : R.Pairwise Bef) (hc : Cross L R) (hn : n ≤ 1000) :
    Calls Tryz.prog 190 #[.slice (some ⟨G, 0, none⟩) n c, .int .i64 (a : Int), .int .i64 (m : Int), .int .i64 (b : Int), .func (.func 182) #[] #[]] w fun e w' => e = .returned (.tuple #[]) ∧ ∃ S, SrtP S (L ++ R) ∧ SrtSt G n c w w' (p ++ (S ++ q)) := by
  have hlen := h.len
  have hbn : b ≤ n := by simp at hlen; omega
  obtain ⟨D, hD⟩ : ∃ D, D = p ++ (L ++ (R ++ q)) := ⟨_, rfl⟩
  rw [← hD] at h
  have gL : ∀ t, t < L.length → D.getD (a + t) (0, 0) = L.getD t (0, 0) := by
    intro t ht
    have := app_at p L (R ++ q) t ht
    rw [ha] at this
    rw [hD, ← this]
  have gR : ∀ t, t < R.length → D.getD (m + t) (0, 0) = R.getD t (0, 0) := by
    intro t ht
    have := app_at (p ++ L) R q t ht
    rw [List.length_append, ha, hm] at this
    rw [hD, ← this]; simp [List.append_assoc]
  have hcr : ∀ s t, a ≤ s → s < m → m ≤ t → t < b → (D.getD s (0, 0)).1 < (D.getD t (0, 0)).1 := by
    intro s t h1 h2 h3 h4
    have e1 := gL (s - a) (by omega)
    have e2 := gR (t - m) (by omega)
    rw [show a + (s - a) = s by omega] at e1
    rw [show m + (t - m) = t by omega] at e2
    rw [e1, e2]
    exact hc _ (getD_mem L _ (by omega)) _ (getD_mem R _ (by omega))
  obtain ⟨l, hl⟩ : ∃ l, l = L.length := ⟨_, rfl⟩
  obtain ⟨r, hr⟩ : ∃ r, r = R.length := ⟨_, rfl⟩
  rw [← hl] at hm h1
  rw [← hr] at hb h2
  obtain ⟨mid, hmid⟩ : ∃ mid, mid = (a + b) / 2 := ⟨_, rfl⟩
  obtain ⟨n0, hn0⟩ : ∃ n0, n0 = mid + m := ⟨_, rfl⟩
  obtain ⟨pp, hpp⟩ : ∃ pp, pp + 1 = n0 := ⟨n0 - 1, by omega⟩
  obtain ⟨lo, hi, hlo⟩ : ∃ lo hi, (mid < m ∧ lo = mid + m - b ∧ hi = mid) ∨ (m ≤ mid ∧ lo = a ∧ hi = m) := by
    by_cases hc : mid < m
    · exact ⟨_, _, .inl ⟨hc, rfl, rfl⟩⟩
    · exact ⟨_, _, .inr ⟨by omega, rfl, rfl⟩⟩
  have HIh := Lib.hid ih; have HS0 := Lib.hid h; have HA := Lib.hid ha; have HD := Lib.hid hD; have HC := Lib.hid hcr; have HL := Lib.hid hL; have HR := Lib.hid hR; have HLl := Lib.hid hl; have HRl := Lib.hid hr; have HCr := Lib.hid hc
  have HLo := Lib.hid hlo; have HMid := Lib.hid hmid; have HN0 := Lib.hid hn0; have HPp := Lib.hid hpp
  have e1 := i64_sub m a l (by omega) (by omega)
  have e2 : ((l : Int) == 1) = false := by simp; omega
  have e3 := i64_sub b m r (by omega) (by omega)
  have e4 : ((r : Int) == 1) = false := by simp; omega
  have e5 : ((a : Int) + (b : Int)) / 2 = (mid : Int) := by omega
  have e6 := i64_add mid m n0 (by omega) (by omega)
  clear ih h ha hlen hD gL gR hcr hL hR hc hl hr hlo hmid hn0 hpp
  go_enter Tryz.func190, Tryz.ntmps190
  go_upto_if 140 with fail
  go_cut [20, 21] from 140 to 146 (fun v20 v21 wx => v20 = .int .i64 (lo : Int) ∧ v21 = .int .i64 (hi : Int) ∧ w = wx)
  case first =>
    clear e1 e2 e3 e4 e5 e6
    rcases HLo.out with ⟨g1, g2, g3⟩ | ⟨g1, g2, g3⟩
    · have e7 := i64_sub n0 b lo (by have := HN0.out; have := HMid.out; omega) (by have := HN0.out; have := HMid.out; omega)
      subst g3
      clear g2
      go_wp2
      go_meet
      exact ⟨rfl, rfl, rfl⟩
    · have g4 : ¬ mid < m := by omega
      subst g2
      subst g3
      go_wp2
      go_meet
      exact ⟨rfl, rfl, rfl⟩
  case rest =>
    obtain ⟨rfl, rfl, rfl⟩ := hcut
    have e7 := i64_pred n0 pp HPp.out (by have := HN0.out; have := HMid.out; omega)
    clear e1 e2 e3 e4 e5 e6
    have hlh : lo ≤ hi := by have := HMid.out; rcases HLo.out with h | h <;> omega
    go_wp2
    go_loopw [20, 21, 23] (fun v20 v21 _v23 wr => ∃ (i j : Nat), v20 = .int .i64 (i : Int) ∧ v21 = .int .i64 (j : Int) ∧ lo ≤ i ∧ i ≤ j ∧ j ≤ hi ∧ Hid (i = lo ∨ Bef (D.getD (i - 1) (0, 0)) (D.getD (mid + m - 1 - (i - 1)) (0, 0))) ∧ Hid (j = hi ∨ Bef (D.getD (mid + m - 1 - j) (0, 0)) (D.getD j (0, 0))) ∧ Hid (SrtSt G n c w wr D)) (fun v20 v21 _ _ => (intOf v21).toNat - (intOf v20).toNat)
    case atStart => exact ⟨lo, hi, rfl, rfl, by omega, by omega, by omega, Lib.hid (.inl rfl), Lib.hid (.inl rfl), HS0⟩
    case round =>
      clear e7
      obtain ⟨i, j, rfl, rfl, hli, hij, hjh, HI, HJ, HS⟩ := hrel
      by_cases hlt : (i : Int) < j
      · obtain ⟨h, hh⟩ : ∃ h, h = (i + j) / 2 := ⟨_, rfl⟩
        have hi1 : hi ≤ m := by have := HMid.out; rcases HLo.out with h | h <;> omega
        have e2 : ((i : Int) + (j : Int)) / 2 = (h : Int) := by omega
        have hh1 : i ≤ h := by omega
        have hh2 : h < j := by omega
        obtain ⟨t, ht⟩ : ∃ t, t + h = pp := ⟨pp - h, by have := HMid.out; have := HN0.out; have := HPp.out; rcases HLo.out with h | h <;> omega⟩
        have hta : a ≤ h ∧ m ≤ t ∧ t < b := by have := HMid.out; have := HN0.out; have := HPp.out; rcases HLo.out with h | h <;> omega
        have hte : t = mid + m - 1 - h := by have := HN0.out; have := HPp.out; omega
        obtain ⟨d0, d1⟩ := HS.out.cell h (by omega)
        obtain ⟨d2, d3⟩ := HS.out.cell t (by omega)
        have hcx := HC.out h t (by omega) (by omega) (by omega) (by omega)
        obtain ⟨x, hx⟩ : ∃ x, x = D.getD h (0, 0) := ⟨_, rfl⟩
        obtain ⟨y, hy⟩ : ∃ y, y = D.getD t (0, 0) := ⟨_, rfl⟩
        rw [← hx] at d0 d1 hcx
        rw [← hy] at d2 d3 hcx
        obtain ⟨k, hk, hless⟩ := cmp_two y x
        rw [hte] at hy
        have HLs := Lib.hid hless; have HK := Lib.hid hk; have HX := Lib.hid hx; have HY := Lib.hid hy; have HCX := Lib.hid hcx
        obtain ⟨x1, x2⟩ := x
        obtain ⟨y1, y2⟩ := y
        simp only at HLs
        have e3 := i64_sub pp h t ht (by have := HN0.out; have := HPp.out; have := HMid.out; omega)
        have b1 : (h : Int) < n := by omega
        have b2 : (t : Int) < n := by omega
        have b3 : h < n := by omega
        have b4 : t < n := by omega
        have hk0 : Kept NoB wr wr := Kept.refl _ _
        have D0 : ∀ W : World, Kept NoB wr W → W.cell? ⟨G, h * 2, none⟩ = some (.int .i64 x1) := fun W hk => hk.cell d0
        have D1 : ∀ W : World, Kept NoB wr W → W.cell? ⟨G, h * 2 + 1, none⟩ = some (.int .i64 x2) := fun W hk => hk.cell d1
        have D2 : ∀ W : World, Kept NoB wr W → W.cell? ⟨G, t * 2, none⟩ = some (.int .i64 y1) := fun W hk => hk.cell d2
        have D3 : ∀ W : World, Kept NoB wr W → W.cell? ⟨G, t * 2 + 1, none⟩ = some (.int .i64 y2) := fun W hk => hk.cell d3
        clear hless hk hx hy hcx hh d0 d1 d2 d3 ht hte hta
        by_cases hc : y2 < x2
        · have hd : decide (k < 0) = true := by rw [HK.out]; exact decide_eq_true hc
          go_upto_region 35 with fail
          go_region_held3 (fun W => Kept NoB wr W) (first | assumption | exact Kept.drew (Kept.refl _ _) | exact Kept.drew (by assumption) | exact Kept.trans (by assumption) hkn)
            (first
              | (go_at_call 182; ((with_reducible refine (HLs.out _).mono ?_); rintro e wn ⟨rfl, hkn⟩)))
          have hkw : Kept NoB wr wn := by assumption
          have HSn := Lib.hid (HS.out.then hkw (fun _ h => h))
          clear hkw hkn D0 D1 D2 D3 hk0 HS
          go_wp2
          go_roundw
          case rel => exact ⟨i, h, rfl, rfl, by omega, by omega, by omega, HI, Lib.hid (.inr (by rw [← HX.out, ← HY.out]; exact .inl hc)), HSn⟩
          case measure => simp [intOf]; omega
        · have hd : decide (k < 0) = false := by rw [HK.out]; exact decide_eq_false hc
          go_upto_region 35 with fail
          go_region_held3 (fun W => Kept NoB wr W) (first | assumption | exact Kept.drew (Kept.refl _ _) | exact Kept.drew (by assumption) | exact Kept.trans (by assumption) hkn)
            (first
              | (go_at_call 182; ((with_reducible refine (HLs.out _).mono ?_); rintro e wn ⟨rfl, hkn⟩)))
          have hkw : Kept NoB wr wn := by assumption
          have HSn := Lib.hid (HS.out.then hkw (fun _ h => h))
          clear hkw hkn D0 D1 D2 D3 hk0 HS
          go_wp2
          go_roundw
          case rel => exact ⟨h + 1, j, by go_num, rfl, by omega, by omega, by omega, Lib.hid (.inr (by rw [Nat.add_sub_cancel, ← HX.out, ← HY.out]; have := HCX.out; unfold Bef; simp only at this ⊢; omega)), HJ, HSn⟩
          case measure => simp [intOf]; omega
      · have hij2 : i = j := by omega
        subst hij2
        have hsp := sym_split HL.out HR.out HD.out HA.out (show a + L.length = m by rw [← HLl.out]; exact hm) (show m + R.length = b by rw [← HRl.out]; exact hb) HMid.out HLo.out hli hjh (by rw [← HLl.out]; omega) (by rw [← HRl.out]; omega) HI.out HJ.out
        obtain ⟨L1, L2, R1, R2, hLL, hRR, q1, q2, q3, q4, q5, hall⟩ := hsp
        obtain ⟨e, he⟩ : ∃ e, e + i = n0 := ⟨n0 - i, by have := HN0.out; omega⟩
        have hem : e = mid + m - i := by have := HN0.out; omega
        rw [← hem] at q3 q4
        have hrow : SrtSt G n c w wr (p ++ (L1 ++ (L2 ++ (R1 ++ (R2 ++ q))))) := by
          have := HS.out
          rw [HD.out, hLL, hRR] at this
          simpa [List.append_assoc] using this
        have hLs := HL.out; have hRs := HR.out; have hCr := HCr.out
        rw [hLL] at hLs hCr
        rw [hRR] at hRs hCr
        have hperm := perm_four L1 L2 R1 R2
        rw [← hLL, ← hRR] at hperm
        have HRow := Lib.hid hrow; have HLs := Lib.hid (List.pairwise_append.1 hLs); have HRs := Lib.hid (List.pairwise_append.1 hRs); have HCr2 := Lib.hid hCr; have HPerm := Lib.hid hperm; have HAll := Lib.hid hall
        have Q1 := Lib.hid q1; have Q2 := Lib.hid q2; have Q3 := Lib.hid q3; have Q4 := Lib.hid q4; have Q5 := Lib.hid q5
        have e2 := i64_sub n0 i e he (by have := HN0.out; have := HMid.out; omega)
        have hmb := HMid.out
        have hmm : a < mid ∧ mid < b := by omega
        clear hmb
        have HE := Lib.hid he
        clear hrow hLs hRs hCr hperm hall hem q1 q2 q3 q4 q5 hLL hRR HI HJ HS HS0 HD HL HR HC HCr he hli hjh hlh
        go_upto_region 39 with fail
        go_cut [185] from 178 to 184 (fun v185 wx => v185 = .bool (decide (i < m ∧ m < e)) ∧ wr = wx)
        case first =>
          by_cases g1 : i < m
          · by_cases g2 : m < e
            · go_wp2
              go_meet
              exact ⟨congrArg Value.bool (decide_eq_true (p := i < m ∧ m < e) (by omega)).symm, rfl⟩
            · go_wp2
              go_meet
              exact ⟨congrArg Value.bool (decide_eq_false (p := i < m ∧ m < e) (by omega)).symm, rfl⟩
          · go_wp2
            go_meet
            exact ⟨congrArg Value.bool (decide_eq_false (p := i < m ∧ m < e) (by omega)).symm, rfl⟩
        case rest =>
          obtain ⟨rfl, rfl⟩ := hcut
          clear e2
          obtain ⟨dd, hdd⟩ : ∃ dd, dd = decide (i < m ∧ m < e) := ⟨_, rfl⟩
          rw [← hdd]
          have HDd := Lib.hid hdd
          clear hdd
          go_upto_if 185 with fail
          go_cut [24] from 186 to 191 (fun v24 wx => v24 = .int .i64 (e : Int) ∧ Hid (SrtSt G n c w wx (p ++ (L1 ++ (R1 ++ (L2 ++ (R2 ++ q)))))))
          case first =>
            cases dd with
            | true =>
              obtain ⟨g1, g2⟩ := of_decide_eq_true HDd.out.symm
              have hr := rotate_calls G n c i m e (p ++ L1) L2 R1 (R2 ++ q) (.func (.func 182) #[] #[]) wr (by simpa [List.append_assoc] using HRow.out.start) (by rw [List.length_append, HA.out]; exact Q1.out) Q2.out Q3.out (by have := Q2.out; omega) (by have := Q3.out; omega) hn
              have HRot := Lib.hid hr
              clear hr
              go_wp2_with fail
              refine HRot.out.mono ?_
              rintro e w1 ⟨rfl, hs⟩
              have HS1 := Lib.hid hs
              clear hs
              go_wp2
              go_meet
              refine ⟨rfl, Lib.hid ?_⟩
              have := HRow.out.from HS1.out
              simpa [List.append_assoc] using this
            | false =>
              have hg := of_decide_eq_false HDd.out.symm
              have hnil : L2 = [] ∨ R1 = [] := by
                by_cases g1 : i < m
                · exact .inr (List.eq_nil_of_length_eq_zero (by have := Q3.out; omega))
                · exact .inl (List.eq_nil_of_length_eq_zero (by have := Q2.out; omega))
              have hrow : SrtSt G n c w wr (p ++ (L1 ++ (R1 ++ (L2 ++ (R2 ++ q))))) := by
                have := HRow.out
                rcases hnil with h | h
                · rw [h] at this ⊢; simpa using this
                · rw [h] at this ⊢; simpa using this
              have HRow2 := Lib.hid hrow
              clear hg hnil hrow
              go_wp2
              go_meet
              exact ⟨rfl, HRow2⟩
          case rest =>
            obtain ⟨rfl, HS2⟩ := hcut
            clear HRow HDd
            go_upto_region 41 with fail
            go_cut [199] from 192 to 198 (fun v199 wx => v199 = .bool (decide (a < i ∧ i < mid)) ∧ wc = wx)
            case first =>
              by_cases g1 : a < i
              · by_cases g2 : i < mid
                · go_wp2
                  go_meet
                  exact ⟨congrArg Value.bool (decide_eq_true (p := a < i ∧ i < mid) (by omega)).symm, rfl⟩
                · go_wp2
                  go_meet
                  exact ⟨congrArg Value.bool (decide_eq_false (p := a < i ∧ i < mid) (by omega)).symm, rfl⟩
              · go_wp2
                go_meet
                exact ⟨congrArg Value.bool (decide_eq_false (p := a < i ∧ i < mid) (by omega)).symm, rfl⟩
            case rest =>
              obtain ⟨rfl, rfl⟩ := hcut
              obtain ⟨dd, hdd⟩ : ∃ dd, dd = decide (a < i ∧ i < mid) := ⟨_, rfl⟩
              rw [← hdd]
              have HDd := Lib.hid hdd
              clear hdd
              go_upto_if 199 with fail
              go_cut [24] from 200 to 205 (fun v24 wx => v24 = .int .i64 (e : Int) ∧ ∃ S1, Hid (SrtP S1 (L1 ++ R1)) ∧ Hid (SrtSt G n c w wx (p ++ (S1 ++ (L2 ++ (R2 ++ q))))))
              case first =>
                cases dd with
                | true =>
                  obtain ⟨g1, g2⟩ := of_decide_eq_true HDd.out.symm
                  have hr := HIh.out G n c a i mid p L1 R1 (L2 ++ (R2 ++ q)) wc (by omega) HS2.out.start HA.out Q1.out (by have := Q5.out; have := Q1.out; omega) (by have := Q1.out; omega) (by have := Q5.out; have := Q1.out; omega) HLs.out.1 HRs.out.1 (fun x hx y hy => HCr2.out x (List.mem_append_left _ hx) y (List.mem_append_left _ hy)) hn
                  have HRec := Lib.hid hr
                  clear hr
                  go_wp2_with fail
                  refine HRec.out.mono ?_
                  rintro e w1 ⟨rfl, S1, hp1, hs⟩
                  have HS1 := Lib.hid hs; have HP1 := Lib.hid hp1
                  clear hs hp1
                  go_wp2
                  go_meet
                  exact ⟨rfl, S1, HP1, Lib.hid (HS2.out.from HS1.out)⟩
                | false =>
                  have hg := of_decide_eq_false HDd.out.symm
                  have hsrt : (L1 ++ R1).Pairwise Bef := by
                    by_cases g1 : a < i
                    · have hR1 : R1 = [] := List.eq_nil_of_length_eq_zero (by have := Q5.out; have := Q1.out; omega)
                      rw [hR1, List.append_nil]; exact HLs.out.1
                    · have hL1 : L1 = [] := List.eq_nil_of_length_eq_zero (by have := Q1.out; omega)
                      rw [hL1, List.nil_append]; exact HRs.out.1
                  have HP1 : Hid (SrtP (L1 ++ R1) (L1 ++ R1)) := Lib.hid ⟨List.Perm.refl _, hsrt⟩
                  clear hg hsrt
                  go_wp2
                  go_meet
                  exact ⟨rfl, L1 ++ R1, HP1, Lib.hid (by simpa [List.append_assoc] using HS2.out)⟩
              case rest =>
                obtain ⟨rfl, S1, HP1, HS3⟩ := hcut
                clear HS2 HDd
                go_upto_region 43 with fail
                go_cut [213] from 206 to 212 (fun v213 wx => v213 = .bool (decide (mid < e ∧ e < b)) ∧ wc = wx)
                case first =>
                  by_cases g1 : mid < e
                  · by_cases g2 : e < b
                    · go_wp2
                      go_meet
                      exact ⟨congrArg Value.bool (decide_eq_true (p := mid < e ∧ e < b) (by omega)).symm, rfl⟩
                    · go_wp2
                      go_meet
                      exact ⟨congrArg Value.bool (decide_eq_false (p := mid < e ∧ e < b) (by omega)).symm, rfl⟩
                  · go_wp2
                    go_meet
                    exact ⟨congrArg Value.bool (decide_eq_false (p := mid < e ∧ e < b) (by omega)).symm, rfl⟩
                case rest =>
                  obtain ⟨rfl, rfl⟩ := hcut
                  obtain ⟨dd, hdd⟩ : ∃ dd, dd = decide (mid < e ∧ e < b) := ⟨_, rfl⟩
                  rw [← hdd]
                  have HDd := Lib.hid hdd
                  clear hdd
                  have hfin : ∀ S2 w', SrtP S2 (L2 ++ R2) → SrtSt G n c w w' (p ++ (S1 ++ (S2 ++ q))) → ∃ S, SrtP S (L ++ R) ∧ SrtSt G n c w w' (p ++ (S ++ q)) := by
                    intro S2 w' hp2 hs
                    refine ⟨S1 ++ S2, ⟨(HP1.out.perm.append hp2.perm).trans HPerm.out, join_srt HP1.out.srt hp2.srt ?_⟩, by simpa [List.append_assoc] using hs⟩
                    intro u hu v hv
                    exact HAll.out u (HP1.out.perm.mem_iff.1 hu) v (hp2.perm.mem_iff.1 hv)
                  have HFin := Lib.hid hfin
                  clear hfin
                  have hs1 := HP1.out.len
                  rw [List.length_append] at hs1
                  have HSl := Lib.hid hs1
                  clear hs1
                  cases dd with
                  | true =>
                    obtain ⟨g1, g2⟩ := of_decide_eq_true HDd.out.symm
                    have hr := HIh.out G n c mid e b (p ++ S1) L2 R2 q wc (by omega) (by simpa [List.append_assoc] using HS3.out.start) (by rw [List.length_append, HA.out, HSl.out]; have := Q5.out; omega) (by have := Q5.out; have := Q1.out; have := Q2.out; have := Q3.out; omega) Q4.out (by have := Q5.out; have := Q1.out; have := Q2.out; have := Q3.out; omega) (by have := Q4.out; omega) HLs.out.2.1 HRs.out.2.1 (fun x hx y hy => HCr2.out x (List.mem_append_right _ hx) y (List.mem_append_right _ hy)) hn
                    have HRec := Lib.hid hr
                    clear hr
                    go_wp2_with fail
                    refine HRec.out.mono ?_
                    rintro e w1 ⟨rfl, S2, hp2, hs⟩
                    have HS4 := Lib.hid hs; have HP2 := Lib.hid hp2
                    clear hs hp2
                    go_wp2
                    go_end0
                    exact ⟨rfl, HFin.out S2 _ HP2.out (HS3.out.from (by simpa [List.append_assoc] using HS4.out))⟩
                  | false =>
                    have hg := of_decide_eq_false HDd.out.symm
                    have hsrt : (L2 ++ R2).Pairwise Bef := by
                      by_cases g1 : mid < e
                      · have hR2 : R2 = [] := List.eq_nil_of_length_eq_zero (by have := Q4.out; omega)
                        rw [hR2, List.append_nil]; exact HLs.out.2.1
                      · have hL2 : L2 = [] := List.eq_nil_of_length_eq_zero (by have := Q5.out; have := Q1.out; have := Q2.out; have := Q3.out; omega)
                        rw [hL2, List.nil_append]; exact HRs.out.2.1
                    have HP2 : Hid (SrtP (L2 ++ R2) (L2 ++ R2)) := Lib.hid ⟨List.Perm.refl _, hsrt⟩
                    clear hg hsrt
                    go_wp2
                    go_end0
                    exact ⟨rfl, HFin.out (L2 ++ R2) _ HP2.out (by simpa [List.append_assoc] using HS3.out)⟩

theorem sym_calls : ∀ N, SymC N
  | 0 => fun G n c a m b p L R q w hN h ha hm hb h1 h2 hL hR hc hn => by omega
  | N + 1 => fun G n c a m b p L R q w hN h ha hm hb h1 h2 hL hR hc hn => by
    by_cases g1 : L.length = 1
    · obtain ⟨x, rfl⟩ := List.length_eq_one_iff.1 g1
      exact sym_left G n c a m b p R q x w h ha (by simpa using hm) hb hR (fun y hy => hc x (List.mem_singleton.2 rfl) y hy) hn
    · by_cases g2 : R.length = 1
      · obtain ⟨y, rfl⟩ := List.length_eq_one_iff.1 g2
        exact sym_right G n c a m b p L q y w h ha hm (by simpa using hb) (by omega) hL (fun x hx => hc x hx y (List.mem_singleton.2 rfl)) hn
      · exact sym_mid N G n c a m b p L R q w (sym_calls N) hN h ha hm hb (by omega) (by omega) hL hR hc hn
end Go.Proofs.YtfmjfgmbjdhogaaGreatDoor

namespace Go.Proofs.YtfmjfgmbjdhogaaGreatDoor
open Go.RowKit
set_option linter.unusedVariables false
set_option linter.unusedSimpArgs false

/-- The places rise. -/
def Inc (X : List Lf) : Prop := X.Pairwise (fun x y => x.1 < y.1)

theorem ins_nil (G n c a : Nat) (w : World) (ha : a ≤ n) (hn : n ≤ 1000) :
    Calls Tryz.prog 189 #[.slice (some ⟨G, 0, none⟩) n c, .int .i64 (a : Int), .int .i64 (a : Int), .func (.func 182) #[] #[]] w fun e w' => e = .returned (.tuple #[]) ∧ w = w' := by
  have e1 := i64_succ a (a + 1) rfl (by omega)
  go_enter Tryz.func189, Tryz.ntmps189
  go_wp2
  go_loopw [8, 9] (fun v8 _v9 wr => v8 = .int .i64 ((a : Int) + 1) ∧ w = wr) (fun _ _ _ => 0)
  case atStart => exact ⟨by first | rfl | (rw [e1]; rfl), rfl⟩
  case round =>
    obtain ⟨rfl, rfl⟩ := hrel
    go_wp2
    go_end0
    exact ⟨rfl, rfl⟩

set_option maxRecDepth 20000 in
set_option maxHeartbeats 2000000 in
theorem ins_calls (G n c a b : Nat) (p X q : List Lf) (w : World) (h : SrtSt G n c w w (p ++ (X ++ q))) (ha : p.length = a) (hb : a + X.length = b) (hX1 : 1 ≤ X.length) (hI : Inc X) (hn : n ≤ 1000) :
    Calls Tryz.prog 189 #[.slice (some ⟨G, 0, none⟩) n c, .int .i64 (a : Int), .int .i64 (b : Int), .func (.func 182) #[] #[]] w fun e w' => e = .returned (.tuple #[]) ∧ ∃ S, SrtP S X ∧ SrtSt G n c w w' (p ++ (S ++ q)) := by
  have hlen := h.len
  have hbn : b ≤ n := by simp at hlen; omega
  obtain ⟨x0, X0, hX0⟩ : ∃ x0 X0, X = [x0] ++ X0 := by
    cases X with
    | nil => simp at hX1
    | cons x r => exact ⟨x, r, rfl⟩
  obtain ⟨a1, ha1⟩ : ∃ a1, a + 1 = a1 := ⟨_, rfl⟩
  have e1 := i64_succ a a1 ha1 (by omega)
  have hab : a1 ≤ b := by omega
  have HS0 := Lib.hid h; have HA := Lib.hid ha; have HB := Lib.hid hb; have HI := Lib.hid hI; have HX0 := Lib.hid hX0; have HA1 := Lib.hid ha1
  clear h ha hb hI hX0 hX1 hlen ha1
  go_enter Tryz.func189, Tryz.ntmps189
  go_wp2
  go_loopw [8, 9] (fun v8 _v9 wr => ∃ (i : Nat) (Y S Z : List Lf), v8 = .int .i64 (i : Int) ∧ a1 ≤ i ∧ i ≤ b ∧ Hid (X = Y ++ Z) ∧ Hid (a + Y.length = i) ∧ Hid (SrtP S Y) ∧ Hid (SrtSt G n c w wr (p ++ (S ++ (Z ++ q))))) (fun v8 _ _ => b - (intOf v8).toNat)
  case atStart =>
    refine ⟨a1, [x0], [x0], X0, by first | rfl | (rw [← HA1.out]; rfl), by omega, hab, HX0, Lib.hid (by have := HA1.out; simpa using this), Lib.hid ⟨List.Perm.refl _, by simp⟩, Lib.hid ?_⟩
    have := HS0.out
    rw [HX0.out, List.append_assoc] at this
    exact this
  case round =>
    clear e1
    obtain ⟨i, Y, S, Z, rfl, hai, hib, HYZ, HYl, HSP, HS⟩ := hrel
    by_cases hlt : (i : Int) < b
    · have hz : 0 < Z.length := by
        have := HB.out; have h2 := HYl.out
        rw [HYZ.out, List.length_append] at this
        omega
      obtain ⟨x, Z2, rfl⟩ : ∃ x Z2, Z = x :: Z2 := by
        cases Z with
        | nil => simp at hz
        | cons x r => exact ⟨x, r, rfl⟩
      have hpl : ∀ u ∈ S, u.1 < x.1 := by
        intro u hu
        have hi := HI.out
        unfold Inc at hi
        rw [HYZ.out] at hi
        exact (List.pairwise_append.1 hi).2.2 u (HSP.out.perm.mem_iff.1 hu) x List.mem_cons_self
      have HPl := Lib.hid hpl
      have hSl := HSP.out.len
      have HSl := Lib.hid (show a + S.length = i by rw [hSl]; exact HYl.out)
      clear hz hpl hSl
      have hstart : SrtSt G n c w wr (p ++ (S ++ (x :: ([] ++ (Z2 ++ q))))) := by simpa using HS.out
      have HSt := Lib.hid hstart
      clear hstart HS
      go_wp2
      go_loopw [9] (fun v9 wr => ∃ (j : Nat) (S1 S2 : List Lf), v9 = .int .i64 (j : Int) ∧ a ≤ j ∧ j ≤ i ∧ Hid (S = S1 ++ S2) ∧ Hid (a + S1.length = j) ∧ Hid (∀ u ∈ S2, Bef x u) ∧ Hid (SrtSt G n c w wr (p ++ (S1 ++ (x :: (S2 ++ (Z2 ++ q))))))) (fun v9 _ => (intOf v9).toNat - a)
      case atStart => exact ⟨i, S, [], rfl, by have := HA1.out; omega, by omega, Lib.hid (by simp), HSl, Lib.hid (fun u hu => by cases hu), HSt⟩
      case round =>
        clear HSt
        obtain ⟨j, S1, S2, rfl, haj, hji, HSS, HS1, HBf, HS⟩ := hrel
        have hout : (∀ u ∈ S1, Bef u x) → ∀ w', SrtSt G n c w w' (p ++ (S1 ++ (x :: (S2 ++ (Z2 ++ q))))) →
            X = (Y ++ [x]) ++ Z2 ∧ a + (Y ++ [x]).length = i + 1 ∧ SrtP (S1 ++ x :: S2) (Y ++ [x]) ∧ SrtSt G n c w w' (p ++ ((S1 ++ x :: S2) ++ (Z2 ++ q))) := by
          intro h1 w' hs
          have hp := HSP.out
          rw [HSS.out] at hp
          refine ⟨by rw [HYZ.out]; simp, by rw [List.length_append, List.length_singleton]; have := HYl.out; omega, ⟨?_, ins_srt hp.srt h1 HBf.out⟩, by simpa [List.append_assoc] using hs⟩
          exact List.perm_middle.trans ((List.Perm.cons x hp.perm).trans (List.perm_append_singleton x Y).symm)
        have HOut := Lib.hid hout
        clear hout
        by_cases hja : a < j
        · obtain ⟨t, ht⟩ : ∃ t, t + 1 = j := ⟨j - 1, by omega⟩
          obtain ⟨S3, hS3⟩ := snoc_of S1 (t - a) (by have := HS1.out; omega)
          obtain ⟨y, hy⟩ : ∃ y, y = S1.getD (t - a) (0, 0) := ⟨_, rfl⟩
          rw [← hy] at hS3
          subst hS3
          have hrow : SrtSt G n c w wr ((p ++ S3) ++ y :: ([] ++ x :: (S2 ++ (Z2 ++ q)))) := by
            have := HS.out
            simpa [List.append_assoc] using this
          have hcl : a + S3.length = t := by have := HS1.out; simp at this; omega
          obtain ⟨b5, b6, hst, d0, d1, d2, d3, hfr, _, hdn⟩ := hrow.two (s := t) (t := j) (by simp only [List.length_append, HA.out]; omega) (by simpa using ht)
          have hcy := HPl.out y (by rw [HSS.out]; simp)
          obtain ⟨k, hk, hless⟩ := cmp_two x y
          have HLs := Lib.hid hless; have HK := Lib.hid hk; have HCY := Lib.hid hcy; have HT := Lib.hid ht; have HCl := Lib.hid hcl; have HTw := Lib.hid (hrow.two (s := t) (t := j) (by simp only [List.length_append, HA.out]; omega) (by simpa using ht))
          have HRw := Lib.hid hrow
          clear hdn
          obtain ⟨x1, x2⟩ := x
          obtain ⟨y1, y2⟩ := y
          simp only at HLs
          have b1 := i64_pred j t ht (by omega)
          have b2 : (j : Int) < n := by omega
          have b3 : (t : Int) < n := by omega
          have c5 : decide ((a : Int) < (j : Int)) = true := decide_eq_true (by omega)
          have c5n : decide (a < j) = true := decide_eq_true hja
          have hk0 : Kept NoB wr wr := Kept.refl _ _
          have D0 : ∀ W : World, Kept NoB wr W → W.cell? ⟨G, j * 2, none⟩ = some (.int .i64 x1) := fun W hk => hk.cell d2
          have D1 : ∀ W : World, Kept NoB wr W → W.cell? ⟨G, j * 2 + 1, none⟩ = some (.int .i64 x2) := fun W hk => hk.cell d3
          have D2 : ∀ W : World, Kept NoB wr W → W.cell? ⟨G, t * 2, none⟩ = some (.int .i64 y1) := fun W hk => hk.cell d0
          have D3 : ∀ W : World, Kept NoB wr W → W.cell? ⟨G, t * 2 + 1, none⟩ = some (.int .i64 y2) := fun W hk => hk.cell d1
          clear hless hk hy hcy hst d0 d1 d2 d3 hfr hrow hcl ht HS
          by_cases hc : x2 < y2
          · have hd : decide (k < 0) = true := by rw [HK.out]; exact decide_eq_true hc
            go_upto_region 4 with fail
            go_region_held3 (fun W => Kept NoB wr W) (first | assumption | exact Kept.drew (Kept.refl _ _) | exact Kept.drew (by assumption) | exact Kept.trans (by assumption) hkn)
              (first
                | (go_at_call 182; ((with_reducible refine (HLs.out _).mono ?_); rintro e wn ⟨rfl, hkn⟩)))
            have hkw : Kept NoB wr wn := by assumption
            have hrn := HRw.out.then hkw (fun _ h => h)
            obtain ⟨_, _, hst, d0, d1, d2, d3, hfr, _, hdn⟩ := hrn.two (s := t) (t := j) (by simp only [List.length_append, HA.out]; have := HCl.out; omega) (by simpa using HT.out)
            have HF := Lib.hid hdn
            have f0 := hfr (j * 2)
            have f1 := hfr (j * 2 + 1)
            have f2 := hfr (t * 2)
            have f3 := hfr (t * 2 + 1)
            have hst2 : ¬ j = t := by omega
            clear hkw hkn D0 D1 D2 D3 hk0 hrn hdn hfr hst c5 c5n hd HTw HRw
            go_upto_region 6 with fail
            go_region
            have HF2 : Hid (SrtSt G n c w _ _) := Lib.hid (HF.out.then (Kept.drew (Kept.refl NoB _)) (fun _ h => h))
            clear HF d0 d1 d2 d3 f0 f1 f2 f3
            go_wp2
            go_roundw
            case rel =>
              refine ⟨t, S3, (y1, y2) :: S2, by go_num, by have := HCl.out; omega, by have := HT.out; omega, Lib.hid (by rw [HSS.out]; simp), HCl, Lib.hid ?_, Lib.hid ?_⟩
              · intro u hu
                rcases List.mem_cons.1 hu with rfl | hu
                · exact .inl hc
                · exact HBf.out u hu
              · have := HF2.out
                simpa [List.append_assoc] using this
            case measure => have := HT.out; simp [intOf]; omega
          · have hd : decide (k < 0) = false := by rw [HK.out]; exact decide_eq_false hc
            go_upto_region 4 with fail
            go_region_held3 (fun W => Kept NoB wr W) (first | assumption | exact Kept.drew (Kept.refl _ _) | exact Kept.drew (by assumption) | exact Kept.trans (by assumption) hkn)
              (first
                | (go_at_call 182; ((with_reducible refine (HLs.out _).mono ?_); rintro e wn ⟨rfl, hkn⟩)))
            have hkw : Kept NoB wr wn := by assumption
            have hrn := HRw.out.then hkw (fun _ h => h)
            have hb1 : ∀ u ∈ S3 ++ [(y1, y2)], Bef u (x1, x2) := by
              have hsr := HSP.out.srt
              rw [HSS.out] at hsr
              have hyx : Bef (y1, y2) (x1, x2) := by have := HCY.out; unfold Bef; simp only at this ⊢; omega
              have h3 := (List.pairwise_append.1 (List.pairwise_append.1 hsr).1).2.2
              intro u hu
              rcases List.mem_append.1 hu with hu | hu
              · exact (h3 u hu (y1, y2) (List.mem_singleton.2 rfl)).trans hyx
              · rw [List.mem_singleton.1 hu]; exact hyx
            have ho := HOut.out hb1 wn (by simpa [List.append_assoc] using hrn)
            have HO := Lib.hid ho
            have hnd : ¬ k < 0 := of_decide_eq_false hd
            clear hkw hkn D0 D1 D2 D3 hk0 hrn ho hb1 HTw HRw
            go_wp2
            go_roundw
            case rel => exact ⟨i + 1, _, _, _, by go_num, by omega, by omega, Lib.hid HO.out.1, Lib.hid HO.out.2.1, Lib.hid HO.out.2.2.1, Lib.hid HO.out.2.2.2⟩
            case measure => simp [intOf]; omega
        · have hS1 : S1 = [] := List.eq_nil_of_length_eq_zero (by have := HS1.out; omega)
          have hja2 : j = a := by omega
          have ho := HOut.out (by rw [hS1]; intro u hu; cases hu) wr HS.out
          have HO := Lib.hid ho
          clear ho hS1 HS
          subst hja2
          have c5 : decide ((j : Int) < (j : Int)) = false := decide_eq_false (by omega)
          have c5n : decide (j < j) = false := decide_eq_false (by omega)
          go_upto_region 4 with fail
          go_quiet (fail)
          have HO2 := Lib.hid (HO.out.2.2.2.then ((Kept.refl NoB wr).drewN nq) (fun _ h => h))
          go_wp2
          go_roundw
          case rel => exact ⟨i + 1, _, _, _, by go_num, by omega, by omega, Lib.hid HO.out.1, Lib.hid HO.out.2.1, Lib.hid HO.out.2.2.1, HO2⟩
          case measure => simp [intOf]; omega
    · have hib2 : i = b := by omega
      subst hib2
      have hz : Z = [] := by
        have := HB.out; have h2 := HYl.out
        rw [HYZ.out, List.length_append] at this
        exact List.eq_nil_of_length_eq_zero (by omega)
      subst hz
      have hxy : X = Y := by rw [HYZ.out]; simp
      go_wp2
      go_end0
      exact ⟨rfl, S, HSP.out, by simpa using HS.out⟩
end Go.Proofs.YtfmjfgmbjdhogaaGreatDoor
