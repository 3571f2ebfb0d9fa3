/-
  The library's stable sort at leaves: two rows in order made one, where one of them is a leaf alone.
  The library's stable sort at leaves: two rows in order made one, where the hinder one is a leaf alone.
-/
import Derived.Test.YtfmjfgmbjdhogaaGreatDoorMs4
namespace Go.Proofs.YtfmjfgmbjdhogaaGreatDoor
open Go.RowKit
set_option linter.unusedVariables false
set_option linter.unusedSimpArgs false

theorem i64_succ (a d : Nat) (h : a + 1 = d) (ha : d ≤ 100000) : IntKind.i64.wrap ((a : Int) + 1) = (d : Int) := by rw [IntWalk.i64_in _ (by omega)]; omega
theorem i64_pred (a d : Nat) (h : d + 1 = a) (ha : a ≤ 100000) : IntKind.i64.wrap ((a : Int) - 1) = (d : Int) := by rw [IntWalk.i64_in _ (by omega)]; omega
theorem getD_l (A B : List Lf) (t : Nat) (h : t < A.length) : (A ++ B).getD t (0, 0) = A.getD t (0, 0) := by rw [List.getD, List.getD, List.getElem?_append_left h]
theorem getD_r (A B : List Lf) (t s : Nat) (h : A.length + s = t) : (A ++ B).getD t (0, 0) = B.getD s (0, 0) := by rw [List.getD, List.getD, List.getElem?_append_right (by omega), show t - A.length = s by omega]
/-- The comparison of two leaves, by one number. -/
theorem cmp_two (u v : Lf) : ∃ k : Int, (decide (k < 0) = decide (u.2 < v.2)) ∧ ∀ w, Calls Tryz.prog 182 #[.agg #[.int .i64 u.1, .int .i64 u.2], .agg #[.int .i64 v.1, .int .i64 v.2]] w fun e w' => e = .returned (.int .i64 k) ∧ Kept NoB w w' := by
  refine ⟨cmpI u.2 v.2, ?_, fun w => less_any u.1 v.1 u.2 v.2 w⟩
  unfold cmpI
  by_cases h : u.2 < v.2
  · rw [if_pos h]; simp [h]
  · rw [if_neg h]; by_cases h2 : v.2 < u.2
    · rw [if_pos h2]; simp [h]
    · rw [if_neg h2]; simp [h]

set_option maxRecDepth 20000 in
set_option maxHeartbeats 1000000 in
theorem sym_left (G n c a m b : Nat) (p R q : List Lf) (x : Lf) (w : World) (h : SrtSt G n c w w (p ++ ([x] ++ (R ++ q)))) (ha : p.length = a) (hm : a + 1 = m) (hb : m + R.length = b) (hR : R.Pairwise Bef) (hc : ∀ y ∈ R, x.1 < y.1) (hn : n ≤ 1000) :
    Calls Tryz.prog 190 #[.slice (some ⟨G, 0, none⟩) n c, .int .i64 (a : Int), .int .i64 (m : Int), .int .i64 (b : Int), .func (.func 182) #[] #[]] w fun e w' => e = .returned (.tuple #[]) ∧ ∃ S, SrtP S ([x] ++ R) ∧ SrtSt G n c w w' (p ++ (S ++ q)) := by
  have hlen := h.len
  have hbn : b ≤ n := by simp at hlen; omega
  obtain ⟨D, hD⟩ : ∃ D, D = p ++ ([x] ++ (R ++ q)) := ⟨_, rfl⟩
  rw [← hD] at h
  have gx : D.getD a (0, 0) = x := by
    rw [hD, ← ha]; simp [List.getD]
  have gR : ∀ t, t < R.length → D.getD (m + t) (0, 0) = R.getD t (0, 0) := by
    intro t ht
    have := app_at (p ++ [x]) R q t ht
    rw [List.length_append, ha, List.length_singleton, hm] at this
    rw [hD, ← this]; simp [List.append_assoc]
  have hcr : ∀ t, m ≤ t → t < b → x.1 < (D.getD t (0, 0)).1 := by
    intro t h1 h2
    have := gR (t - m) (by omega)
    rw [show m + (t - m) = t by omega] at this
    rw [this]
    exact hc _ (getD_mem R _ (by omega))
  have HS0 := Lib.hid h; have HA := Lib.hid ha; have HD := Lib.hid hD; have HX := Lib.hid gx; have HG := Lib.hid gR; have HC := Lib.hid hcr; have HR := Lib.hid hR; have HB := Lib.hid hb
  have e1 := i64_sub m a 1 (by omega) (by omega)
  have hmn : m ≤ b := by omega
  clear h ha hlen hD gx gR hcr hR hc hb
  go_enter Tryz.func190, Tryz.ntmps190
  go_wp2
  go_loopw [10, 11, 12] (fun v10 v11 _v12 wr => ∃ (i j : Nat), v10 = .int .i64 (i : Int) ∧ v11 = .int .i64 (j : Int) ∧ m ≤ i ∧ i ≤ j ∧ j ≤ b ∧ Hid (i = m ∨ Bef (D.getD (i - 1) (0, 0)) x) ∧ Hid (j = b ∨ Bef x (D.getD j (0, 0))) ∧ Hid (SrtSt G n c w wr D)) (fun v10 v11 _ _ => (intOf v11).toNat - (intOf v10).toNat)
  case atStart => exact ⟨m, b, rfl, rfl, by omega, by omega, by omega, Lib.hid (.inl rfl), Lib.hid (.inl rfl), HS0⟩
  case round =>
    obtain ⟨i, j, rfl, rfl, hmi, hij, hjb, HI, HJ, HS⟩ := hrel
    by_cases hlt : (i : Int) < j
    · obtain ⟨h, hh⟩ : ∃ h, h = (i + j) / 2 := ⟨_, rfl⟩
      have e2 : ((i : Int) + (j : Int)) / 2 = (h : Int) := by omega
      have hh1 : i ≤ h := by omega
      have hh2 : h < j := by omega
      obtain ⟨d0, d1⟩ := HS.out.cell h (by omega)
      obtain ⟨d2, d3⟩ := HS.out.cell a (by omega)
      rw [HX.out] at d2 d3
      have hcy := HC.out h (by omega) (by omega)
      obtain ⟨y, hy⟩ : ∃ y, y = D.getD h (0, 0) := ⟨_, rfl⟩
      rw [← hy] at d0 d1 hcy
      obtain ⟨k, hk, hless⟩ := cmp_two y x
      have HLs := Lib.hid hless; have HK := Lib.hid hk; have HY := Lib.hid hy; have HCY := Lib.hid hcy
      obtain ⟨x1, x2⟩ := x
      obtain ⟨y1, y2⟩ := y
      simp only at HLs
      have b1 : (h : Int) < n := by omega
      have b2 : (a : Int) < n := by omega
      have b3 : h < n := by omega
      have b4 : a < n := by omega
      have hk0 : Kept NoB wr wr := Kept.refl _ _
      have D0 : ∀ W : World, Kept NoB wr W → W.cell? ⟨G, h * 2, none⟩ = some (.int .i64 y1) := fun W hk => hk.cell d0
      have D1 : ∀ W : World, Kept NoB wr W → W.cell? ⟨G, h * 2 + 1, none⟩ = some (.int .i64 y2) := fun W hk => hk.cell d1
      have D2 : ∀ W : World, Kept NoB wr W → W.cell? ⟨G, a * 2, none⟩ = some (.int .i64 x1) := fun W hk => hk.cell d2
      have D3 : ∀ W : World, Kept NoB wr W → W.cell? ⟨G, a * 2 + 1, none⟩ = some (.int .i64 x2) := fun W hk => hk.cell d3
      clear hless hk hy hcy hh d0 d1 d2 d3
      go_upto_region 5 with fail
      go_region_held3 (fun W => Kept NoB wr W) (first | assumption | exact Kept.drew (Kept.refl _ _) | exact Kept.drew (by assumption) | exact Kept.trans (by assumption) hkn)
        (first
          | (go_at_call 182; ((with_reducible refine (HLs.out _).mono ?_); rintro e wn ⟨rfl, hkn⟩)))
      have hkw : Kept NoB wr wn := by assumption
      have HSn := Lib.hid (HS.out.then hkw (fun _ h => h))
      clear hkw hkn D0 D1 D2 D3 hk0 HS
      by_cases hc : y2 < x2
      · have hd : k < 0 := of_decide_eq_true (by rw [HK.out]; exact decide_eq_true hc)
        go_wp2
        go_roundw
        case rel => exact ⟨h + 1, j, by go_num, rfl, by omega, by omega, by omega, Lib.hid (.inr (by rw [Nat.add_sub_cancel, ← HY.out]; exact .inl hc)), HJ, HSn⟩
        case measure => simp [intOf]; omega
      · have hd : ¬ k < 0 := of_decide_eq_false (by rw [HK.out]; exact decide_eq_false hc)
        go_wp2
        go_roundw
        case rel => exact ⟨i, h, rfl, rfl, by omega, by omega, by omega, HI, Lib.hid (.inr (by rw [← HY.out]; have := HCY.out; unfold Bef; simp only at this ⊢; omega)), HSn⟩
        case measure => simp [intOf]; omega
    · have hij2 : i = j := by omega
      subst hij2
      obtain ⟨R1, R2, hRR, hR1, hR2⟩ := split_at R (i - m) R.length rfl (by have := HB.out; omega)
      have hsrt : (R1 ++ x :: R2).Pairwise Bef := by
        have hp := HR.out
        rw [hRR] at hp
        have hp2 := List.pairwise_append.1 hp
        refine ins_srt hp ?_ ?_
        · refine all_bef hp2.1 ?_
          intro k hk
          have f := HI.out.resolve_left (by omega)
          have g := HG.out k (by omega)
          rw [hRR, getD_l _ _ _ (by omega), show m + k = i - 1 by omega] at g
          rw [g] at f
          exact f
        · refine all_aft hp2.2.1 ?_
          intro h0
          have f := HJ.out.resolve_left (by have := HB.out; omega)
          have g := HG.out (i - m) (by omega)
          rw [hRR, getD_r R1 R2 _ 0 (by omega), show m + (i - m) = i by omega] at g
          rw [g] at f
          exact f
      have hperm : (R1 ++ x :: R2).Perm (x :: R) := by rw [hRR]; exact List.perm_middle
      have HFin : Hid (SrtP (R1 ++ x :: R2) (x :: R)) := Lib.hid ⟨hperm, hsrt⟩
      have hrow : SrtSt G n c w wr (p ++ ([] ++ (x :: (R1 ++ (R2 ++ q))))) := by
        have := HS.out
        rw [HD.out, hRR] at this
        simpa [List.append_assoc] using this
      have HRow := Lib.hid hrow; have HR1 := Lib.hid hR1
      obtain ⟨e, he⟩ : ∃ e, e + 1 = i := ⟨i - 1, by omega⟩
      have e3 := i64_pred i e (by omega) (by omega)
      clear hRR hR1 hR2 hsrt hperm hrow HI HJ HR HG HC HS HS0 HX HD
      go_wp2
      go_loopw [13] (fun v13 wr => ∃ (k : Nat) (Ra Rb : List Lf), v13 = .int .i64 (k : Int) ∧ k ≤ e ∧ Hid (Ra.length + a = k ∧ R1 = Ra ++ Rb) ∧ Hid (SrtSt G n c w wr (p ++ (Ra ++ (x :: (Rb ++ (R2 ++ q))))))) (fun v13 _ => e - (intOf v13).toNat)
      case atStart => exact ⟨a, [], R1, rfl, by omega, Lib.hid ⟨by simp, rfl⟩, HRow⟩
      case round =>
        clear HRow
        obtain ⟨k, Ra, Rb, rfl, hke, HL, HS⟩ := hrel
        by_cases hlt3 : (k : Int) < e
        · have hl := HL.out.2
          have hl2 := congrArg List.length hl
          rw [List.length_append, HR1.out] at hl2
          obtain ⟨y, Rc, rfl⟩ : ∃ y Rc, Rb = y :: Rc := by
            cases Rb with
            | nil => simp at hl2; have := HL.out.1; omega
            | cons y Rc => exact ⟨y, Rc, rfl⟩
          obtain ⟨t, ht⟩ : ∃ t, k + 1 = t := ⟨_, rfl⟩
          have hrow : SrtSt G n c w wr ((p ++ Ra) ++ x :: ([] ++ y :: (Rc ++ (R2 ++ q)))) := by
            have := HS.out
            simpa [List.append_assoc] using this
          obtain ⟨b5, b6, hst, d0, d1, d2, d3, hfr, hup, _⟩ := hrow.two (s := k) (t := t) (by rw [List.length_append, HA.out]; have := HL.out.1; omega) (by simpa using ht)
          obtain ⟨x1, x2⟩ := x
          obtain ⟨y1, y2⟩ := y
          have HF := Lib.hid hup
          have b1 := i64_succ k t (by omega) (by omega)
          have b3 : (k : Int) < n := by omega
          have b4 : (t : Int) < n := by omega
          have hst2 : ¬ k = t := by omega
          have f0 := hfr (k * 2)
          have f1 := hfr (k * 2 + 1)
          have f2 := hfr (t * 2)
          have f3 := hfr (t * 2 + 1)
          have HT := Lib.hid ht
          clear ht hrow hup hfr hst hl hl2
          go_upto_region 11 with fail
          go_region
          have HF2 : Hid (SrtSt G n c w _ _) := Lib.hid (HF.out.then (Kept.drew (Kept.refl NoB _)) (fun _ h => h))
          clear HF d0 d1 d2 d3 f0 f1 f2 f3
          go_wp2
          go_roundw
          case rel =>
            refine ⟨t, Ra ++ [(y1, y2)], Rc, by go_num, by have := HT.out; omega, Lib.hid ⟨by rw [List.length_append]; have := HL.out.1; have := HT.out; simp; omega, by rw [HL.out.2]; simp⟩, Lib.hid ?_⟩
            have := HF2.out
            simpa [List.append_assoc] using this
          case measure => have := HT.out; simp [intOf]; omega
        · have hl := HL.out.2
          have hl2 := congrArg List.length hl
          rw [List.length_append, HR1.out] at hl2
          have hRb : Rb = [] := List.eq_nil_of_length_eq_zero (by have := HL.out.1; omega)
          subst hRb
          go_wp2
          refine bodyPost_ret (results_none rfl _ _ _) rfl ?_
          refine ⟨rfl, R1 ++ x :: R2, HFin.out, ?_⟩
          have := HS.out
          rw [HL.out.2]
          simpa [List.append_assoc] using this
end Go.Proofs.YtfmjfgmbjdhogaaGreatDoor

namespace Go.Proofs.YtfmjfgmbjdhogaaGreatDoor
open Go.RowKit
set_option linter.unusedVariables false
set_option linter.unusedSimpArgs false

set_option maxRecDepth 20000 in
set_option maxHeartbeats 1000000 in
theorem sym_right (G n c a m b : Nat) (p L q : List Lf) (y : Lf) (w : World) (h : SrtSt G n c w w (p ++ (L ++ ([y] ++ q)))) (ha : p.length = a) (hm : a + L.length = m) (hb : m + 1 = b) (hL2 : 2 ≤ L.length) (hL : L.Pairwise Bef) (hc : ∀ x ∈ L, x.1 < y.1) (hn : n ≤ 1000) :
    Calls Tryz.prog 190 #[.slice (some ⟨G, 0, none⟩) n c, .int .i64 (a : Int), .int .i64 (m : Int), .int .i64 (b : Int), .func (.func 182) #[] #[]] w fun e w' => e = .returned (.tuple #[]) ∧ ∃ S, SrtP S (L ++ [y]) ∧ SrtSt G n c w w' (p ++ (S ++ q)) := by
  have hlen := h.len
  have hbn : b ≤ n := by simp at hlen; omega
  obtain ⟨D, hD⟩ : ∃ D, D = p ++ (L ++ ([y] ++ q)) := ⟨_, rfl⟩
  rw [← hD] at h
  have gL : ∀ t, t < L.length → D.getD (a + t) (0, 0) = L.getD t (0, 0) := by
    intro t ht
    have := app_at p L ([y] ++ q) t ht
    rw [ha] at this
    rw [hD, ← this]
  have gy : D.getD m (0, 0) = y := by
    have := app_getD (p ++ L) q y
    rw [List.length_append, ha, hm] at this
    have e : D = (p ++ L) ++ y :: q := by rw [hD]; simp
    rw [e]; exact this
  have hcr : ∀ t, a ≤ t → t < m → (D.getD t (0, 0)).1 < y.1 := by
    intro t h1 h2
    have := gL (t - a) (by omega)
    rw [show a + (t - a) = t by omega] at this
    rw [this]
    exact hc _ (getD_mem L _ (by omega))
  obtain ⟨l, hl⟩ : ∃ l, l = L.length := ⟨_, rfl⟩
  rw [← hl] at hm hL2
  have HS0 := Lib.hid h; have HA := Lib.hid ha; have HD := Lib.hid hD; have HY := Lib.hid gy; have HG := Lib.hid gL; have HC := Lib.hid hcr; have HL := Lib.hid hL; have HLl := Lib.hid hl
  have e1 := i64_sub m a l (by omega) (by omega)
  have e2 : ((l : Int) == 1) = false := by simp; omega
  have e3 : IntKind.i64.wrap ((b : Int) - (m : Int)) = 1 := by rw [IntWalk.i64_in _ (by omega)]; omega
  clear h ha hlen hD gy gL hcr hL hc hl
  go_enter Tryz.func190, Tryz.ntmps190
  go_wp2
  go_loopw [14, 15, 16] (fun v14 v15 _v16 wr => ∃ (i j : Nat), v14 = .int .i64 (i : Int) ∧ v15 = .int .i64 (j : Int) ∧ a ≤ i ∧ i ≤ j ∧ j ≤ m ∧ Hid (i = a ∨ Bef (D.getD (i - 1) (0, 0)) y) ∧ Hid (j = m ∨ Bef y (D.getD j (0, 0))) ∧ Hid (SrtSt G n c w wr D)) (fun v14 v15 _ _ => (intOf v15).toNat - (intOf v14).toNat)
  case atStart => exact ⟨a, m, rfl, rfl, by omega, by omega, by omega, Lib.hid (.inl rfl), Lib.hid (.inl rfl), HS0⟩
  case round =>
    clear e1 e2 e3
    obtain ⟨i, j, rfl, rfl, hai, hij, hjm, HI, HJ, HS⟩ := hrel
    by_cases hlt : (i : Int) < j
    · obtain ⟨h, hh⟩ : ∃ h, h = (i + j) / 2 := ⟨_, rfl⟩
      have e2 : ((i : Int) + (j : Int)) / 2 = (h : Int) := by omega
      have hh1 : i ≤ h := by omega
      have hh2 : h < j := by omega
      obtain ⟨d0, d1⟩ := HS.out.cell h (by omega)
      obtain ⟨d2, d3⟩ := HS.out.cell m (by omega)
      rw [HY.out] at d2 d3
      have hcx := HC.out h (by omega) (by omega)
      obtain ⟨x, hx⟩ : ∃ x, x = D.getD h (0, 0) := ⟨_, rfl⟩
      rw [← hx] at d0 d1 hcx
      obtain ⟨k, hk, hless⟩ := cmp_two y x
      have HLs := Lib.hid hless; have HK := Lib.hid hk; have HX := Lib.hid hx; have HCX := Lib.hid hcx
      obtain ⟨x1, x2⟩ := x
      obtain ⟨y1, y2⟩ := y
      simp only at HLs
      have b1 : (h : Int) < n := by omega
      have b2 : (m : Int) < n := by omega
      have b3 : h < n := by omega
      have b4 : m < n := by omega
      have hk0 : Kept NoB wr wr := Kept.refl _ _
      have D0 : ∀ W : World, Kept NoB wr W → W.cell? ⟨G, h * 2, none⟩ = some (.int .i64 x1) := fun W hk => hk.cell d0
      have D1 : ∀ W : World, Kept NoB wr W → W.cell? ⟨G, h * 2 + 1, none⟩ = some (.int .i64 x2) := fun W hk => hk.cell d1
      have D2 : ∀ W : World, Kept NoB wr W → W.cell? ⟨G, m * 2, none⟩ = some (.int .i64 y1) := fun W hk => hk.cell d2
      have D3 : ∀ W : World, Kept NoB wr W → W.cell? ⟨G, m * 2 + 1, none⟩ = some (.int .i64 y2) := fun W hk => hk.cell d3
      clear hless hk hx hcx hh d0 d1 d2 d3
      by_cases hc : y2 < x2
      · have hd : decide (k < 0) = true := by rw [HK.out]; exact decide_eq_true hc
        go_upto_region 17 with fail
        go_region_held3 (fun W => Kept NoB wr W) (first | assumption | exact Kept.drew (Kept.refl _ _) | exact Kept.drew (by assumption) | exact Kept.trans (by assumption) hkn)
          (first
            | (go_at_call 182; ((with_reducible refine (HLs.out _).mono ?_); rintro e wn ⟨rfl, hkn⟩)))
        have hkw : Kept NoB wr wn := by assumption
        have HSn := Lib.hid (HS.out.then hkw (fun _ h => h))
        clear hkw hkn D0 D1 D2 D3 hk0 HS
        go_wp2
        go_roundw
        case rel => exact ⟨i, h, rfl, rfl, by omega, by omega, by omega, HI, Lib.hid (.inr (by rw [← HX.out]; exact .inl hc)), HSn⟩
        case measure => simp [intOf]; omega
      · have hd : decide (k < 0) = false := by rw [HK.out]; exact decide_eq_false hc
        go_upto_region 17 with fail
        go_region_held3 (fun W => Kept NoB wr W) (first | assumption | exact Kept.drew (Kept.refl _ _) | exact Kept.drew (by assumption) | exact Kept.trans (by assumption) hkn)
          (first
            | (go_at_call 182; ((with_reducible refine (HLs.out _).mono ?_); rintro e wn ⟨rfl, hkn⟩)))
        have hkw : Kept NoB wr wn := by assumption
        have HSn := Lib.hid (HS.out.then hkw (fun _ h => h))
        clear hkw hkn D0 D1 D2 D3 hk0 HS
        go_wp2
        go_roundw
        case rel => exact ⟨h + 1, j, by go_num, rfl, by omega, by omega, by omega, Lib.hid (.inr (by rw [Nat.add_sub_cancel, ← HX.out]; have := HCX.out; unfold Bef; simp only at this ⊢; omega)), HJ, HSn⟩
        case measure => simp [intOf]; omega
    · have hij2 : i = j := by omega
      subst hij2
      obtain ⟨L1, L2, hLL, hl1, hl2⟩ := split_at L (i - a) L.length rfl (by have := HLl.out; omega)
      rw [← HLl.out] at hl2
      have hsrt : (L1 ++ y :: L2).Pairwise Bef := by
        have hp := HL.out
        rw [hLL] at hp
        have hp2 := List.pairwise_append.1 hp
        refine ins_srt hp ?_ ?_
        · refine all_bef hp2.1 ?_
          intro k hk
          have f := HI.out.resolve_left (by omega)
          have g := HG.out k (by have := HLl.out; omega)
          rw [hLL, getD_l _ _ _ (by omega), show a + k = i - 1 by omega] at g
          rw [g] at f
          exact f
        · refine all_aft hp2.2.1 ?_
          intro h0
          have f := HJ.out.resolve_left (by omega)
          have g := HG.out (i - a) (by have := HLl.out; omega)
          rw [hLL, getD_r L1 L2 _ 0 (by omega), show a + (i - a) = i by omega] at g
          rw [g] at f
          exact f
      have hperm : (L1 ++ y :: L2).Perm (L ++ [y]) := by
        rw [hLL]
        exact List.perm_middle.trans (List.perm_append_singleton y (L1 ++ L2)).symm
      have HFin : Hid (SrtP (L1 ++ y :: L2) (L ++ [y])) := Lib.hid ⟨hperm, hsrt⟩
      have hrow : SrtSt G n c w wr (p ++ (L1 ++ (L2 ++ (y :: ([] ++ q))))) := by
        have := HS.out
        rw [HD.out, hLL] at this
        simpa [List.append_assoc] using this
      have HRow := Lib.hid hrow; have HL1 := Lib.hid hl1; have HL2 := Lib.hid hl2
      clear hLL hl1 hl2 hsrt hperm hrow HI HJ HL HG HC HS HS0 HD HY HLl
      go_wp2
      go_loopw [17] (fun v17 wr => ∃ (k : Nat) (La Lb : List Lf), v17 = .int .i64 (k : Int) ∧ i ≤ k ∧ k ≤ m ∧ Hid (La.length + i = k ∧ L2 = La ++ Lb) ∧ Hid (SrtSt G n c w wr (p ++ (L1 ++ (La ++ (y :: (Lb ++ q))))))) (fun v17 _ => (intOf v17).toNat - i)
      case atStart => exact ⟨m, L2, [], rfl, by omega, by omega, Lib.hid ⟨by have := HL2.out; omega, by simp⟩, HRow⟩
      case round =>
        clear HRow
        obtain ⟨k, La, Lb, rfl, hik, hkm, HL, HS⟩ := hrel
        by_cases hlt3 : (i : Int) < k
        · obtain ⟨t, ht⟩ : ∃ t, t + 1 = k := ⟨k - 1, by omega⟩
          obtain ⟨Lc, hLc⟩ := snoc_of La (t - i) (by have := HL.out.1; omega)
          obtain ⟨x, hx⟩ : ∃ x, x = La.getD (t - i) (0, 0) := ⟨_, rfl⟩
          rw [← hx] at hLc
          subst hLc
          have hrow : SrtSt G n c w wr ((p ++ (L1 ++ Lc)) ++ x :: ([] ++ y :: (Lb ++ q))) := by
            have := HS.out
            simpa [List.append_assoc] using this
          have hcl : Lc.length + i = t := by have := HL.out.1; simp at this; omega
          obtain ⟨b5, b6, hst, d0, d1, d2, d3, hfr, _, hdn⟩ := hrow.two (s := t) (t := k) (by simp only [List.length_append, HA.out, HL1.out]; omega) (by simpa using ht)
          obtain ⟨x1, x2⟩ := x
          obtain ⟨y1, y2⟩ := y
          have HF := Lib.hid hdn
          have b1 := i64_pred k t (by omega) (by omega)
          have b3 : (k : Int) < n := by omega
          have b4 : (t : Int) < n := by omega
          have hst2 : ¬ k = t := by omega
          have f0 := hfr (k * 2)
          have f1 := hfr (k * 2 + 1)
          have f2 := hfr (t * 2)
          have f3 := hfr (t * 2 + 1)
          have HT := Lib.hid ht; have HCl := Lib.hid hcl
          clear ht hrow hdn hfr hst hcl hx
          go_upto_region 23 with fail
          go_region
          have HF2 : Hid (SrtSt G n c w _ _) := Lib.hid (HF.out.then (Kept.drew (Kept.refl NoB _)) (fun _ h => h))
          clear HF d0 d1 d2 d3 f0 f1 f2 f3
          go_wp2
          go_roundw
          case rel =>
            refine ⟨t, Lc, (x1, x2) :: Lb, by go_num, by have := HCl.out; omega, by have := HT.out; omega, Lib.hid ⟨HCl.out, by rw [HL.out.2]; simp⟩, Lib.hid ?_⟩
            have := HF2.out
            simpa [List.append_assoc] using this
          case measure => have := HT.out; simp [intOf]; omega
        · have hLa : La = [] := List.eq_nil_of_length_eq_zero (by have := HL.out.1; omega)
          subst hLa
          go_wp2
          refine bodyPost_ret (results_none rfl _ _ _) rfl ?_
          refine ⟨rfl, L1 ++ y :: L2, HFin.out, ?_⟩
          have := HS.out
          rw [HL.out.2]
          simpa [List.append_assoc] using this
end Go.Proofs.YtfmjfgmbjdhogaaGreatDoor
