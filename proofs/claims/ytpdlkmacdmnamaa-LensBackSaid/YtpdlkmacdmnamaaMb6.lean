/-
  The library's stable sort at leaves: two rows in order made one, where the hinder one is a leaf alone.
  The library's stable sort at leaves: two rows in order made one.
-/
import Derived.Test.YtpdlkmacdmnamaaMb5
import Derived.Deep.DeepCutAuto
import Derived.Deep.CutBlock
namespace Go.Proofs.Ytpdlkmacdmnamaa
open Go.RowKit
set_option linter.unusedVariables false
set_option linter.unusedSimpArgs false

set_option maxRecDepth 20000 in
set_option maxHeartbeats 1000000 in
theorem sym_right (G n c a m b : Nat) (p L q : List Lf) (y : Lf) (w : World) (h : SrtSt G n c w w (p ++ (L ++ ([y] ++ q)))) (ha : p.length = a) (hm : a + L.length = m) (hb : m + 1 = b) (hL2 : 2 ≤ L.length) (hL : L.Pairwise Bef) (hc : ∀ x ∈ L, x.1 < y.1) (hn : n ≤ 1000) :
    Calls Try.prog 73 #[.slice (some ⟨G, 0, none⟩) n c, .int .i64 (a : Int), .int .i64 (m : Int), .int .i64 (b : Int), .func (.func 60) #[] #[]] w fun e w' => e = .returned (.tuple #[]) ∧ ∃ S, SrtP S (L ++ [y]) ∧ SrtSt G n c w w' (p ++ (S ++ q)) := by
  have hlen := h.len
  have hbn : b ≤ n := by simp at hlen; omega
  obtain ⟨D, hD⟩ : ∃ D, D = p ++ (L ++ ([y] ++ q)) := ⟨_, rfl⟩
  rw [← hD] at h
  have gL : ∀ t, t < L.length → D.getD (a + t) (0, 0) = L.getD t (0, 0) := by
    intro t ht
    have := app_at p L ([y] ++ q) t ht
    rw [ha] at this
    rw [hD, ← this]
  have gy : D.getD m (0, 0) = y := by
    have := app_getD (p ++ L) q y
    rw [List.length_append, ha, hm] at this
    have e : D = (p ++ L) ++ y :: q := by rw [hD]; simp
    rw [e]; exact this
  have hcr : ∀ t, a ≤ t → t < m → (D.getD t (0, 0)).1 < y.1 := by
    intro t h1 h2
    have := gL (t - a) (by omega)
    rw [show a + (t - a) = t by omega] at this
    rw [this]
    exact hc _ (getD_mem L _ (by omega))
  obtain ⟨l, hl⟩ : ∃ l, l = L.length := ⟨_, rfl⟩
  rw [← hl] at hm hL2
  have HS0 := Lib.hid h; have HA := Lib.hid ha; have HD := Lib.hid hD; have HY := Lib.hid gy; have HG := Lib.hid gL; have HC := Lib.hid hcr; have HL := Lib.hid hL; have HLl := Lib.hid hl
  have e1 := i64_sub m a l (by omega) (by omega)
  have e2 : ((l : Int) == 1) = false := by simp; omega
  have e3 : IntKind.i64.wrap ((b : Int) - (m : Int)) = 1 := by rw [IntWalk.i64_in _ (by omega)]; omega
  clear h ha hlen hD gy gL hcr hL hc hl
  go_enter Try.func73, Try.ntmps73
  go_wp2
  go_loopw [14, 15, 16] (fun v14 v15 _v16 wr => ∃ (i j : Nat), v14 = .int .i64 (i : Int) ∧ v15 = .int .i64 (j : Int) ∧ a ≤ i ∧ i ≤ j ∧ j ≤ m ∧ Hid (i = a ∨ Bef (D.getD (i - 1) (0, 0)) y) ∧ Hid (j = m ∨ Bef y (D.getD j (0, 0))) ∧ Hid (SrtSt G n c w wr D)) (fun v14 v15 _ _ => (intOf v15).toNat - (intOf v14).toNat)
  case atStart => exact ⟨a, m, rfl, rfl, by omega, by omega, by omega, Lib.hid (.inl rfl), Lib.hid (.inl rfl), HS0⟩
  case round =>
    clear e1 e2 e3
    obtain ⟨i, j, rfl, rfl, hai, hij, hjm, HI, HJ, HS⟩ := hrel
    by_cases hlt : (i : Int) < j
    · obtain ⟨h, hh⟩ : ∃ h, h = (i + j) / 2 := ⟨_, rfl⟩
      have e2 : ((i : Int) + (j : Int)) / 2 = (h : Int) := by omega
      have hh1 : i ≤ h := by omega
      have hh2 : h < j := by omega
      obtain ⟨d0, d1⟩ := HS.out.cell h (by omega)
      obtain ⟨d2, d3⟩ := HS.out.cell m (by omega)
      rw [HY.out] at d2 d3
      have hcx := HC.out h (by omega) (by omega)
      obtain ⟨x, hx⟩ : ∃ x, x = D.getD h (0, 0) := ⟨_, rfl⟩
      rw [← hx] at d0 d1 hcx
      obtain ⟨k, hk, hless⟩ := cmp_two y x
      have HLs := Lib.hid hless; have HK := Lib.hid hk; have HX := Lib.hid hx; have HCX := Lib.hid hcx
      obtain ⟨x1, x2⟩ := x
      obtain ⟨y1, y2⟩ := y
      simp only at HLs
      have b1 : (h : Int) < n := by omega
      have b2 : (m : Int) < n := by omega
      have b3 : h < n := by omega
      have b4 : m < n := by omega
      have hk0 : Kept NoB wr wr := Kept.refl _ _
      have D0 : ∀ W : World, Kept NoB wr W → W.cell? ⟨G, h * 2, none⟩ = some (.int .i64 x1) := fun W hk => hk.cell d0
      have D1 : ∀ W : World, Kept NoB wr W → W.cell? ⟨G, h * 2 + 1, none⟩ = some (.int .i64 x2) := fun W hk => hk.cell d1
      have D2 : ∀ W : World, Kept NoB wr W → W.cell? ⟨G, m * 2, none⟩ = some (.int .i64 y1) := fun W hk => hk.cell d2
      have D3 : ∀ W : World, Kept NoB wr W → W.cell? ⟨G, m * 2 + 1, none⟩ = some (.int .i64 y2) := fun W hk => hk.cell d3
      clear hless hk hx hcx hh d0 d1 d2 d3
      by_cases hc : y2 < x2
      · have hd : decide (k < 0) = true := by rw [HK.out]; exact decide_eq_true hc
        go_upto_region 17 with fail
        go_region_held3 (fun W => Kept NoB wr W) (first | assumption | exact Kept.drew (Kept.refl _ _) | exact Kept.drew (by assumption) | exact Kept.trans (by assumption) hkn)
          (first
            | (go_at_call 60; ((with_reducible refine (HLs.out _).mono ?_); rintro e wn ⟨rfl, hkn⟩)))
        have hkw : Kept NoB wr wn := by assumption
        have HSn := Lib.hid (HS.out.then hkw (fun _ h => h))
        clear hkw hkn D0 D1 D2 D3 hk0 HS
        go_wp2
        go_roundw
        case rel => exact ⟨i, h, rfl, rfl, by omega, by omega, by omega, HI, Lib.hid (.inr (by rw [← HX.out]; exact .inl hc)), HSn⟩
        case measure => simp [intOf]; omega
      · have hd : decide (k < 0) = false := by rw [HK.out]; exact decide_eq_false hc
        go_upto_region 17 with fail
        go_region_held3 (fun W => Kept NoB wr W) (first | assumption | exact Kept.drew (Kept.refl _ _) | exact Kept.drew (by assumption) | exact Kept.trans (by assumption) hkn)
          (first
            | (go_at_call 60; ((with_reducible refine (HLs.out _).mono ?_); rintro e wn ⟨rfl, hkn⟩)))
        have hkw : Kept NoB wr wn := by assumption
        have HSn := Lib.hid (HS.out.then hkw (fun _ h => h))
        clear hkw hkn D0 D1 D2 D3 hk0 HS
        go_wp2
        go_roundw
        case rel => exact ⟨h + 1, j, by go_num, rfl, by omega, by omega, by omega, Lib.hid (.inr (by rw [Nat.add_sub_cancel, ← HX.out]; have := HCX.out; unfold Bef; simp only at this ⊢; omega)), HJ, HSn⟩
        case measure => simp [intOf]; omega
    · have hij2 : i = j := by omega
      subst hij2
      obtain ⟨L1, L2, hLL, hl1, hl2⟩ := split_at L (i - a) L.length rfl (by have := HLl.out; omega)
      rw [← HLl.out] at hl2
      have hsrt : (L1 ++ y :: L2).Pairwise Bef := by
        have hp := HL.out
        rw [hLL] at hp
        have hp2 := List.pairwise_append.1 hp
        refine ins_srt hp ?_ ?_
        · refine all_bef hp2.1 ?_
          intro k hk
          have f := HI.out.resolve_left (by omega)
          have g := HG.out k (by have := HLl.out; omega)
          rw [hLL, getD_l _ _ _ (by omega), show a + k = i - 1 by omega] at g
          rw [g] at f
          exact f
        · refine all_aft hp2.2.1 ?_
          intro h0
          have f := HJ.out.resolve_left (by omega)
          have g := HG.out (i - a) (by have := HLl.out; omega)
          rw [hLL, getD_r L1 L2 _ 0 (by omega), show a + (i - a) = i by omega] at g
          rw [g] at f
          exact f
      have hperm : (L1 ++ y :: L2).Perm (L ++ [y]) := by
        rw [hLL]
        exact List.perm_middle.trans (List.perm_append_singleton y (L1 ++ L2)).symm
      have HFin : Hid (SrtP (L1 ++ y :: L2) (L ++ [y])) := Lib.hid ⟨hperm, hsrt⟩
      have hrow : SrtSt G n c w wr (p ++ (L1 ++ (L2 ++ (y :: ([] ++ q))))) := by
        have := HS.out
        rw [HD.out, hLL] at this
        simpa [List.append_assoc] using this
      have HRow := Lib.hid hrow; have HL1 := Lib.hid hl1; have HL2 := Lib.hid hl2
      clear hLL hl1 hl2 hsrt hperm hrow HI HJ HL HG HC HS HS0 HD HY HLl
      go_wp2
      go_loopw [17] (fun v17 wr => ∃ (k : Nat) (La Lb : List Lf), v17 = .int .i64 (k : Int) ∧ i ≤ k ∧ k ≤ m ∧ Hid (La.length + i = k ∧ L2 = La ++ Lb) ∧ Hid (SrtSt G n c w wr (p ++ (L1 ++ (La ++ (y :: (Lb ++ q))))))) (fun v17 _ => (intOf v17).toNat - i)
      case atStart => exact ⟨m, L2, [], rfl, by omega, by omega, Lib.hid ⟨by have := HL2.out; omega, by simp⟩, HRow⟩
      case round =>
        clear HRow
        obtain ⟨k, La, Lb, rfl, hik, hkm, HL, HS⟩ := hrel
        by_cases hlt3 : (i : Int) < k
        · obtain ⟨t, ht⟩ : ∃ t, t + 1 = k := ⟨k - 1, by omega⟩
          obtain ⟨Lc, hLc⟩ := snoc_of La (t - i) (by have := HL.out.1; omega)
          obtain ⟨x, hx⟩ : ∃ x, x = La.getD (t - i) (0, 0) := ⟨_, rfl⟩
          rw [← hx] at hLc
          subst hLc
          have hrow : SrtSt G n c w wr ((p ++ (L1 ++ Lc)) ++ x :: ([] ++ y :: (Lb ++ q))) := by
            have := HS.out
            simpa [List.append_assoc] using this
          have hcl : Lc.length + i = t := by have := HL.out.1; simp at this; omega
          obtain ⟨b5, b6, hst, d0, d1, d2, d3, hfr, _, hdn⟩ := hrow.two (s := t) (t := k) (by simp only [List.length_append, HA.out, HL1.out]; omega) (by simpa using ht)
          obtain ⟨x1, x2⟩ := x
          obtain ⟨y1, y2⟩ := y
          have HF := Lib.hid hdn
          have b1 := i64_pred k t (by omega) (by omega)
          have b3 : (k : Int) < n := by omega
          have b4 : (t : Int) < n := by omega
          have hst2 : ¬ k = t := by omega
          have f0 := hfr (k * 2)
          have f1 := hfr (k * 2 + 1)
          have f2 := hfr (t * 2)
          have f3 := hfr (t * 2 + 1)
          have HT := Lib.hid ht; have HCl := Lib.hid hcl
          clear ht hrow hdn hfr hst hcl hx
          go_upto_region 23 with fail
          go_region
          have HF2 : Hid (SrtSt G n c w _ _) := Lib.hid (HF.out.then (Kept.drew (Kept.refl NoB _)) (fun _ h => h))
          clear HF d0 d1 d2 d3 f0 f1 f2 f3
          go_wp2
          go_roundw
          case rel =>
            refine ⟨t, Lc, (x1, x2) :: Lb, by go_num, by have := HCl.out; omega, by have := HT.out; omega, Lib.hid ⟨HCl.out, by rw [HL.out.2]; simp⟩, Lib.hid ?_⟩
            have := HF2.out
            simpa [List.append_assoc] using this
          case measure => have := HT.out; simp [intOf]; omega
        · have hLa : La = [] := List.eq_nil_of_length_eq_zero (by have := HL.out.1; omega)
          subst hLa
          go_wp2
          refine bodyPost_ret (results_none rfl _ _ _) rfl ?_
          refine ⟨rfl, L1 ++ y :: L2, HFin.out, ?_⟩
          have := HS.out
          rw [HL.out.2]
          simpa [List.append_assoc] using this
end Go.Proofs.Ytpdlkmacdmnamaa

namespace Go.Proofs.Ytpdlkmacdmnamaa
open Go.RowKit
set_option linter.unusedVariables false
set_option linter.unusedSimpArgs false

/-- Two rows in order, one behind the other, of N leaves at most, are made one. -/
def SymC (N : Nat) : Prop := ∀ (G n c a m b : Nat) (p L R q : List Lf) (w : World), b - a ≤ N → SrtSt G n c w w (p ++ (L ++ (R ++ q))) → p.length = a → a + L.length = m → m + R.length = b → 1 ≤ L.length → 1 ≤ R.length →
  L.Pairwise Bef → R.Pairwise Bef → Cross L R → n ≤ 1000 →
  Calls Try.prog 73 #[.slice (some ⟨G, 0, none⟩) n c, .int .i64 (a : Int), .int .i64 (m : Int), .int .i64 (b : Int), .func (.func 60) #[] #[]] w fun e w' => e = .returned (.tuple #[]) ∧ ∃ S, SrtP S (L ++ R) ∧ SrtSt G n c w w' (p ++ (S ++ q))

theorem perm_four (A B C D : List Lf) : ((A ++ C) ++ (B ++ D)).Perm ((A ++ B) ++ (C ++ D)) := by
  rw [List.append_assoc, List.append_assoc]
  refine List.Perm.append_left A ?_
  rw [← List.append_assoc, ← List.append_assoc]
  exact List.Perm.append_right D List.perm_append_comm

set_option maxRecDepth 20000 in
set_option maxHeartbeats 2000000 in
theorem sym_mid (N G n c a m b : Nat) (p L R q : List Lf) (w : World) (ih : SymC N) (hN : b - a ≤ N + 1) (h : SrtSt G n c w w (p ++ (L ++ (R ++ q)))) (ha : p.length = a) (hm : a + L.length = m) (hb : m + R.length = b) (h1 : 2 ≤ L.length) (h2 : 2 ≤ R.length)
    (hL : L.Pairwise Bef) (hR : R.Pairwise Bef) (hc : Cross L R) (hn : n ≤ 1000) :
    Calls Try.prog 73 #[.slice (some ⟨G, 0, none⟩) n c, .int .i64 (a : Int), .int .i64 (m : Int), .int .i64 (b : Int), .func (.func 60) #[] #[]] w fun e w' => e = .returned (.tuple #[]) ∧ ∃ S, SrtP S (L ++ R) ∧ SrtSt G n c w w' (p ++ (S ++ q)) := by
  have hlen := h.len
  have hbn : b ≤ n := by simp at hlen; omega
  obtain ⟨D, hD⟩ : ∃ D, D = p ++ (L ++ (R ++ q)) := ⟨_, rfl⟩
  rw [← hD] at h
  have gL : ∀ t, t < L.length → D.getD (a + t) (0, 0) = L.getD t (0, 0) := by
    intro t ht
    have := app_at p L (R ++ q) t ht
    rw [ha] at this
    rw [hD, ← this]
  have gR : ∀ t, t < R.length → D.getD (m + t) (0, 0) = R.getD t (0, 0) := by
    intro t ht
    have := app_at (p ++ L) R q t ht
    rw [List.length_append, ha, hm] at this
    rw [hD, ← this]; simp [List.append_assoc]
  have hcr : ∀ s t, a ≤ s → s < m → m ≤ t → t < b → (D.getD s (0, 0)).1 < (D.getD t (0, 0)).1 := by
    intro s t h1 h2 h3 h4
    have e1 := gL (s - a) (by omega)
    have e2 := gR (t - m) (by omega)
    rw [show a + (s - a) = s by omega] at e1
    rw [show m + (t - m) = t by omega] at e2
    rw [e1, e2]
    exact hc _ (getD_mem L _ (by omega)) _ (getD_mem R _ (by omega))
  obtain ⟨l, hl⟩ : ∃ l, l = L.length := ⟨_, rfl⟩
  obtain ⟨r, hr⟩ : ∃ r, r = R.length := ⟨_, rfl⟩
  rw [← hl] at hm h1
  rw [← hr] at hb h2
  obtain ⟨mid, hmid⟩ : ∃ mid, mid = (a + b) / 2 := ⟨_, rfl⟩
  obtain ⟨n0, hn0⟩ : ∃ n0, n0 = mid + m := ⟨_, rfl⟩
  obtain ⟨pp, hpp⟩ : ∃ pp, pp + 1 = n0 := ⟨n0 - 1, by omega⟩
  obtain ⟨lo, hi, hlo⟩ : ∃ lo hi, (mid < m ∧ lo = mid + m - b ∧ hi = mid) ∨ (m ≤ mid ∧ lo = a ∧ hi = m) := by
    by_cases hc : mid < m
    · exact ⟨_, _, .inl ⟨hc, rfl, rfl⟩⟩
    · exact ⟨_, _, .inr ⟨by omega, rfl, rfl⟩⟩
  have HIh := Lib.hid ih; have HS0 := Lib.hid h; have HA := Lib.hid ha; have HD := Lib.hid hD; have HC := Lib.hid hcr; have HL := Lib.hid hL; have HR := Lib.hid hR; have HLl := Lib.hid hl; have HRl := Lib.hid hr; have HCr := Lib.hid hc
  have HLo := Lib.hid hlo; have HMid := Lib.hid hmid; have HN0 := Lib.hid hn0; have HPp := Lib.hid hpp
  have e1 := i64_sub m a l (by omega) (by omega)
  have e2 : ((l : Int) == 1) = false := by simp; omega
  have e3 := i64_sub b m r (by omega) (by omega)
  have e4 : ((r : Int) == 1) = false := by simp; omega
  have e5 : ((a : Int) + (b : Int)) / 2 = (mid : Int) := by omega
  have e6 := i64_add mid m n0 (by omega) (by omega)
  clear ih h ha hlen hD gL gR hcr hL hR hc hl hr hlo hmid hn0 hpp
  go_enter Try.func73, Try.ntmps73
  go_upto_if 140 with fail
  go_cut [20, 21] from 140 to 146 (fun v20 v21 wx => v20 = .int .i64 (lo : Int) ∧ v21 = .int .i64 (hi : Int) ∧ w = wx)
  case first =>
    clear e1 e2 e3 e4 e5 e6
    rcases HLo.out with ⟨g1, g2, g3⟩ | ⟨g1, g2, g3⟩
    · have e7 := i64_sub n0 b lo (by have := HN0.out; have := HMid.out; omega) (by have := HN0.out; have := HMid.out; omega)
      subst g3
      clear g2
      go_wp2
      go_meet
      exact ⟨rfl, rfl, rfl⟩
    · have g4 : ¬ mid < m := by omega
      subst g2
      subst g3
      go_wp2
      go_meet
      exact ⟨rfl, rfl, rfl⟩
  case rest =>
    obtain ⟨rfl, rfl, rfl⟩ := hcut
    have e7 := i64_pred n0 pp HPp.out (by have := HN0.out; have := HMid.out; omega)
    clear e1 e2 e3 e4 e5 e6
    have hlh : lo ≤ hi := by have := HMid.out; rcases HLo.out with h | h <;> omega
    go_wp2
    go_loopw [20, 21, 23] (fun v20 v21 _v23 wr => ∃ (i j : Nat), v20 = .int .i64 (i : Int) ∧ v21 = .int .i64 (j : Int) ∧ lo ≤ i ∧ i ≤ j ∧ j ≤ hi ∧ Hid (i = lo ∨ Bef (D.getD (i - 1) (0, 0)) (D.getD (mid + m - 1 - (i - 1)) (0, 0))) ∧ Hid (j = hi ∨ Bef (D.getD (mid + m - 1 - j) (0, 0)) (D.getD j (0, 0))) ∧ Hid (SrtSt G n c w wr D)) (fun v20 v21 _ _ => (intOf v21).toNat - (intOf v20).toNat)
    case atStart => exact ⟨lo, hi, rfl, rfl, by omega, by omega, by omega, Lib.hid (.inl rfl), Lib.hid (.inl rfl), HS0⟩
    case round =>
      clear e7
      obtain ⟨i, j, rfl, rfl, hli, hij, hjh, HI, HJ, HS⟩ := hrel
      by_cases hlt : (i : Int) < j
      · obtain ⟨h, hh⟩ : ∃ h, h = (i + j) / 2 := ⟨_, rfl⟩
        have hi1 : hi ≤ m := by have := HMid.out; rcases HLo.out with h | h <;> omega
        have e2 : ((i : Int) + (j : Int)) / 2 = (h : Int) := by omega
        have hh1 : i ≤ h := by omega
        have hh2 : h < j := by omega
        obtain ⟨t, ht⟩ : ∃ t, t + h = pp := ⟨pp - h, by have := HMid.out; have := HN0.out; have := HPp.out; rcases HLo.out with h | h <;> omega⟩
        have hta : a ≤ h ∧ m ≤ t ∧ t < b := by have := HMid.out; have := HN0.out; have := HPp.out; rcases HLo.out with h | h <;> omega
        have hte : t = mid + m - 1 - h := by have := HN0.out; have := HPp.out; omega
        obtain ⟨d0, d1⟩ := HS.out.cell h (by omega)
        obtain ⟨d2, d3⟩ := HS.out.cell t (by omega)
        have hcx := HC.out h t (by omega) (by omega) (by omega) (by omega)
        obtain ⟨x, hx⟩ : ∃ x, x = D.getD h (0, 0) := ⟨_, rfl⟩
        obtain ⟨y, hy⟩ : ∃ y, y = D.getD t (0, 0) := ⟨_, rfl⟩
        rw [← hx] at d0 d1 hcx
        rw [← hy] at d2 d3 hcx
        obtain ⟨k, hk, hless⟩ := cmp_two y x
        rw [hte] at hy
        have HLs := Lib.hid hless; have HK := Lib.hid hk; have HX := Lib.hid hx; have HY := Lib.hid hy; have HCX := Lib.hid hcx
        obtain ⟨x1, x2⟩ := x
        obtain ⟨y1, y2⟩ := y
        simp only at HLs
        have e3 := i64_sub pp h t ht (by have := HN0.out; have := HPp.out; have := HMid.out; omega)
        have b1 : (h : Int) < n := by omega
        have b2 : (t : Int) < n := by omega
        have b3 : h < n := by omega
        have b4 : t < n := by omega
        have hk0 : Kept NoB wr wr := Kept.refl _ _
        have D0 : ∀ W : World, Kept NoB wr W → W.cell? ⟨G, h * 2, none⟩ = some (.int .i64 x1) := fun W hk => hk.cell d0
        have D1 : ∀ W : World, Kept NoB wr W → W.cell? ⟨G, h * 2 + 1, none⟩ = some (.int .i64 x2) := fun W hk => hk.cell d1
        have D2 : ∀ W : World, Kept NoB wr W → W.cell? ⟨G, t * 2, none⟩ = some (.int .i64 y1) := fun W hk => hk.cell d2
        have D3 : ∀ W : World, Kept NoB wr W → W.cell? ⟨G, t * 2 + 1, none⟩ = some (.int .i64 y2) := fun W hk => hk.cell d3
        clear hless hk hx hy hcx hh d0 d1 d2 d3 ht hte hta
        by_cases hc : y2 < x2
        · have hd : decide (k < 0) = true := by rw [HK.out]; exact decide_eq_true hc
          go_upto_region 35 with fail
          go_region_held3 (fun W => Kept NoB wr W) (first | assumption | exact Kept.drew (Kept.refl _ _) | exact Kept.drew (by assumption) | exact Kept.trans (by assumption) hkn)
            (first
              | (go_at_call 60; ((with_reducible refine (HLs.out _).mono ?_); rintro e wn ⟨rfl, hkn⟩)))
          have hkw : Kept NoB wr wn := by assumption
          have HSn := Lib.hid (HS.out.then hkw (fun _ h => h))
          clear hkw hkn D0 D1 D2 D3 hk0 HS
          go_wp2
          go_roundw
          case rel => exact ⟨i, h, rfl, rfl, by omega, by omega, by omega, HI, Lib.hid (.inr (by rw [← HX.out, ← HY.out]; exact .inl hc)), HSn⟩
          case measure => simp [intOf]; omega
        · have hd : decide (k < 0) = false := by rw [HK.out]; exact decide_eq_false hc
          go_upto_region 35 with fail
          go_region_held3 (fun W => Kept NoB wr W) (first | assumption | exact Kept.drew (Kept.refl _ _) | exact Kept.drew (by assumption) | exact Kept.trans (by assumption) hkn)
            (first
              | (go_at_call 60; ((with_reducible refine (HLs.out _).mono ?_); rintro e wn ⟨rfl, hkn⟩)))
          have hkw : Kept NoB wr wn := by assumption
          have HSn := Lib.hid (HS.out.then hkw (fun _ h => h))
          clear hkw hkn D0 D1 D2 D3 hk0 HS
          go_wp2
          go_roundw
          case rel => exact ⟨h + 1, j, by go_num, rfl, by omega, by omega, by omega, Lib.hid (.inr (by rw [Nat.add_sub_cancel, ← HX.out, ← HY.out]; have := HCX.out; unfold Bef; simp only at this ⊢; omega)), HJ, HSn⟩
          case measure => simp [intOf]; omega
      · have hij2 : i = j := by omega
        subst hij2
        have hsp := sym_split HL.out HR.out HD.out HA.out (show a + L.length = m by rw [← HLl.out]; exact hm) (show m + R.length = b by rw [← HRl.out]; exact hb) HMid.out HLo.out hli hjh (by rw [← HLl.out]; omega) (by rw [← HRl.out]; omega) HI.out HJ.out
        obtain ⟨L1, L2, R1, R2, hLL, hRR, q1, q2, q3, q4, q5, hall⟩ := hsp
        obtain ⟨e, he⟩ : ∃ e, e + i = n0 := ⟨n0 - i, by have := HN0.out; omega⟩
        have hem : e = mid + m - i := by have := HN0.out; omega
        rw [← hem] at q3 q4
        have hrow : SrtSt G n c w wr (p ++ (L1 ++ (L2 ++ (R1 ++ (R2 ++ q))))) := by
          have := HS.out
          rw [HD.out, hLL, hRR] at this
          simpa [List.append_assoc] using this
        have hLs := HL.out; have hRs := HR.out; have hCr := HCr.out
        rw [hLL] at hLs hCr
        rw [hRR] at hRs hCr
        have hperm := perm_four L1 L2 R1 R2
        rw [← hLL, ← hRR] at hperm
        have HRow := Lib.hid hrow; have HLs := Lib.hid (List.pairwise_append.1 hLs); have HRs := Lib.hid (List.pairwise_append.1 hRs); have HCr2 := Lib.hid hCr; have HPerm := Lib.hid hperm; have HAll := Lib.hid hall
        have Q1 := Lib.hid q1; have Q2 := Lib.hid q2; have Q3 := Lib.hid q3; have Q4 := Lib.hid q4; have Q5 := Lib.hid q5
        have e2 := i64_sub n0 i e he (by have := HN0.out; have := HMid.out; omega)
        have hmb := HMid.out
        have hmm : a < mid ∧ mid < b := by omega
        clear hmb
        have HE := Lib.hid he
        clear hrow hLs hRs hCr hperm hall hem q1 q2 q3 q4 q5 hLL hRR HI HJ HS HS0 HD HL HR HC HCr he hli hjh hlh
        go_upto_region 39 with fail
        go_cut [185] from 178 to 184 (fun v185 wx => v185 = .bool (decide (i < m ∧ m < e)) ∧ wr = wx)
        case first =>
          by_cases g1 : i < m
          · by_cases g2 : m < e
            · go_wp2
              go_meet
              exact ⟨congrArg Value.bool (decide_eq_true (p := i < m ∧ m < e) (by omega)).symm, rfl⟩
            · go_wp2
              go_meet
              exact ⟨congrArg Value.bool (decide_eq_false (p := i < m ∧ m < e) (by omega)).symm, rfl⟩
          · go_wp2
            go_meet
            exact ⟨congrArg Value.bool (decide_eq_false (p := i < m ∧ m < e) (by omega)).symm, rfl⟩
        case rest =>
          obtain ⟨rfl, rfl⟩ := hcut
          clear e2
          obtain ⟨dd, hdd⟩ : ∃ dd, dd = decide (i < m ∧ m < e) := ⟨_, rfl⟩
          rw [← hdd]
          have HDd := Lib.hid hdd
          clear hdd
          go_upto_if 185 with fail
          go_cut [24] from 186 to 191 (fun v24 wx => v24 = .int .i64 (e : Int) ∧ Hid (SrtSt G n c w wx (p ++ (L1 ++ (R1 ++ (L2 ++ (R2 ++ q)))))))
          case first =>
            cases dd with
            | true =>
              obtain ⟨g1, g2⟩ := of_decide_eq_true HDd.out.symm
              have hr := rotate_calls G n c i m e (p ++ L1) L2 R1 (R2 ++ q) (.func (.func 60) #[] #[]) wr (by simpa [List.append_assoc] using HRow.out.start) (by rw [List.length_append, HA.out]; exact Q1.out) Q2.out Q3.out (by have := Q2.out; omega) (by have := Q3.out; omega) hn
              have HRot := Lib.hid hr
              clear hr
              go_wp2_with fail
              refine HRot.out.mono ?_
              rintro e w1 ⟨rfl, hs⟩
              have HS1 := Lib.hid hs
              clear hs
              go_wp2
              go_meet
              refine ⟨rfl, Lib.hid ?_⟩
              have := HRow.out.from HS1.out
              simpa [List.append_assoc] using this
            | false =>
              have hg := of_decide_eq_false HDd.out.symm
              have hnil : L2 = [] ∨ R1 = [] := by
                by_cases g1 : i < m
                · exact .inr (List.eq_nil_of_length_eq_zero (by have := Q3.out; omega))
                · exact .inl (List.eq_nil_of_length_eq_zero (by have := Q2.out; omega))
              have hrow : SrtSt G n c w wr (p ++ (L1 ++ (R1 ++ (L2 ++ (R2 ++ q))))) := by
                have := HRow.out
                rcases hnil with h | h
                · rw [h] at this ⊢; simpa using this
                · rw [h] at this ⊢; simpa using this
              have HRow2 := Lib.hid hrow
              clear hg hnil hrow
              go_wp2
              go_meet
              exact ⟨rfl, HRow2⟩
          case rest =>
            obtain ⟨rfl, HS2⟩ := hcut
            clear HRow HDd
            go_upto_region 41 with fail
            go_cut [199] from 192 to 198 (fun v199 wx => v199 = .bool (decide (a < i ∧ i < mid)) ∧ wc = wx)
            case first =>
              by_cases g1 : a < i
              · by_cases g2 : i < mid
                · go_wp2
                  go_meet
                  exact ⟨congrArg Value.bool (decide_eq_true (p := a < i ∧ i < mid) (by omega)).symm, rfl⟩
                · go_wp2
                  go_meet
                  exact ⟨congrArg Value.bool (decide_eq_false (p := a < i ∧ i < mid) (by omega)).symm, rfl⟩
              · go_wp2
                go_meet
                exact ⟨congrArg Value.bool (decide_eq_false (p := a < i ∧ i < mid) (by omega)).symm, rfl⟩
            case rest =>
              obtain ⟨rfl, rfl⟩ := hcut
              obtain ⟨dd, hdd⟩ : ∃ dd, dd = decide (a < i ∧ i < mid) := ⟨_, rfl⟩
              rw [← hdd]
              have HDd := Lib.hid hdd
              clear hdd
              go_upto_if 199 with fail
              go_cut [24] from 200 to 205 (fun v24 wx => v24 = .int .i64 (e : Int) ∧ ∃ S1, Hid (SrtP S1 (L1 ++ R1)) ∧ Hid (SrtSt G n c w wx (p ++ (S1 ++ (L2 ++ (R2 ++ q))))))
              case first =>
                cases dd with
                | true =>
                  obtain ⟨g1, g2⟩ := of_decide_eq_true HDd.out.symm
                  have hr := HIh.out G n c a i mid p L1 R1 (L2 ++ (R2 ++ q)) wc (by omega) HS2.out.start HA.out Q1.out (by have := Q5.out; have := Q1.out; omega) (by have := Q1.out; omega) (by have := Q5.out; have := Q1.out; omega) HLs.out.1 HRs.out.1 (fun x hx y hy => HCr2.out x (List.mem_append_left _ hx) y (List.mem_append_left _ hy)) hn
                  have HRec := Lib.hid hr
                  clear hr
                  go_wp2_with fail
                  refine HRec.out.mono ?_
                  rintro e w1 ⟨rfl, S1, hp1, hs⟩
                  have HS1 := Lib.hid hs; have HP1 := Lib.hid hp1
                  clear hs hp1
                  go_wp2
                  go_meet
                  exact ⟨rfl, S1, HP1, Lib.hid (HS2.out.from HS1.out)⟩
                | false =>
                  have hg := of_decide_eq_false HDd.out.symm
                  have hsrt : (L1 ++ R1).Pairwise Bef := by
                    by_cases g1 : a < i
                    · have hR1 : R1 = [] := List.eq_nil_of_length_eq_zero (by have := Q5.out; have := Q1.out; omega)
                      rw [hR1, List.append_nil]; exact HLs.out.1
                    · have hL1 : L1 = [] := List.eq_nil_of_length_eq_zero (by have := Q1.out; omega)
                      rw [hL1, List.nil_append]; exact HRs.out.1
                  have HP1 : Hid (SrtP (L1 ++ R1) (L1 ++ R1)) := Lib.hid ⟨List.Perm.refl _, hsrt⟩
                  clear hg hsrt
                  go_wp2
                  go_meet
                  exact ⟨rfl, L1 ++ R1, HP1, Lib.hid (by simpa [List.append_assoc] using HS2.out)⟩
              case rest =>
                obtain ⟨rfl, S1, HP1, HS3⟩ := hcut
                clear HS2 HDd
                go_upto_region 43 with fail
                go_cut [213] from 206 to 212 (fun v213 wx => v213 = .bool (decide (mid < e ∧ e < b)) ∧ wc = wx)
                case first =>
                  by_cases g1 : mid < e
                  · by_cases g2 : e < b
                    · go_wp2
                      go_meet
                      exact ⟨congrArg Value.bool (decide_eq_true (p := mid < e ∧ e < b) (by omega)).symm, rfl⟩
                    · go_wp2
                      go_meet
                      exact ⟨congrArg Value.bool (decide_eq_false (p := mid < e ∧ e < b) (by omega)).symm, rfl⟩
                  · go_wp2
                    go_meet
                    exact ⟨congrArg Value.bool (decide_eq_false (p := mid < e ∧ e < b) (by omega)).symm, rfl⟩
                case rest =>
                  obtain ⟨rfl, rfl⟩ := hcut
                  obtain ⟨dd, hdd⟩ : ∃ dd, dd = decide (mid < e ∧ e < b) := ⟨_, rfl⟩
                  rw [← hdd]
                  have HDd := Lib.hid hdd
                  clear hdd
                  have hfin : ∀ S2 w', SrtP S2 (L2 ++ R2) → SrtSt G n c w w' (p ++ (S1 ++ (S2 ++ q))) → ∃ S, SrtP S (L ++ R) ∧ SrtSt G n c w w' (p ++ (S ++ q)) := by
                    intro S2 w' hp2 hs
                    refine ⟨S1 ++ S2, ⟨(HP1.out.perm.append hp2.perm).trans HPerm.out, join_srt HP1.out.srt hp2.srt ?_⟩, by simpa [List.append_assoc] using hs⟩
                    intro u hu v hv
                    exact HAll.out u (HP1.out.perm.mem_iff.1 hu) v (hp2.perm.mem_iff.1 hv)
                  have HFin := Lib.hid hfin
                  clear hfin
                  have hs1 := HP1.out.len
                  rw [List.length_append] at hs1
                  have HSl := Lib.hid hs1
                  clear hs1
                  cases dd with
                  | true =>
                    obtain ⟨g1, g2⟩ := of_decide_eq_true HDd.out.symm
                    have hr := HIh.out G n c mid e b (p ++ S1) L2 R2 q wc (by omega) (by simpa [List.append_assoc] using HS3.out.start) (by rw [List.length_append, HA.out, HSl.out]; have := Q5.out; omega) (by have := Q5.out; have := Q1.out; have := Q2.out; have := Q3.out; omega) Q4.out (by have := Q5.out; have := Q1.out; have := Q2.out; have := Q3.out; omega) (by have := Q4.out; omega) HLs.out.2.1 HRs.out.2.1 (fun x hx y hy => HCr2.out x (List.mem_append_right _ hx) y (List.mem_append_right _ hy)) hn
                    have HRec := Lib.hid hr
                    clear hr
                    go_wp2_with fail
                    refine HRec.out.mono ?_
                    rintro e w1 ⟨rfl, S2, hp2, hs⟩
                    have HS4 := Lib.hid hs; have HP2 := Lib.hid hp2
                    clear hs hp2
                    go_wp2
                    go_end0
                    exact ⟨rfl, HFin.out S2 _ HP2.out (HS3.out.from (by simpa [List.append_assoc] using HS4.out))⟩
                  | false =>
                    have hg := of_decide_eq_false HDd.out.symm
                    have hsrt : (L2 ++ R2).Pairwise Bef := by
                      by_cases g1 : mid < e
                      · have hR2 : R2 = [] := List.eq_nil_of_length_eq_zero (by have := Q4.out; omega)
                        rw [hR2, List.append_nil]; exact HLs.out.2.1
                      · have hL2 : L2 = [] := List.eq_nil_of_length_eq_zero (by have := Q5.out; have := Q1.out; have := Q2.out; have := Q3.out; omega)
                        rw [hL2, List.nil_append]; exact HRs.out.2.1
                    have HP2 : Hid (SrtP (L2 ++ R2) (L2 ++ R2)) := Lib.hid ⟨List.Perm.refl _, hsrt⟩
                    clear hg hsrt
                    go_wp2
                    go_end0
                    exact ⟨rfl, HFin.out (L2 ++ R2) _ HP2.out (by simpa [List.append_assoc] using HS3.out)⟩

theorem sym_calls : ∀ N, SymC N
  | 0 => fun G n c a m b p L R q w hN h ha hm hb h1 h2 hL hR hc hn => by omega
  | N + 1 => fun G n c a m b p L R q w hN h ha hm hb h1 h2 hL hR hc hn => by
    by_cases g1 : L.length = 1
    · obtain ⟨x, rfl⟩ := List.length_eq_one_iff.1 g1
      exact sym_left G n c a m b p R q x w h ha (by simpa using hm) hb hR (fun y hy => hc x (List.mem_singleton.2 rfl) y hy) hn
    · by_cases g2 : R.length = 1
      · obtain ⟨y, rfl⟩ := List.length_eq_one_iff.1 g2
        exact sym_right G n c a m b p L q y w h ha hm (by simpa using hb) (by omega) hL (fun x hx => hc x hx y (List.mem_singleton.2 rfl)) hn
      · exact sym_mid N G n c a m b p L R q w (sym_calls N) hN h ha hm hb (by omega) (by omega) hL hR hc hn
end Go.Proofs.Ytpdlkmacdmnamaa
