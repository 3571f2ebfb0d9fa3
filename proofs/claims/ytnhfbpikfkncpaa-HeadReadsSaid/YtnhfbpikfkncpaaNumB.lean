/-
  num: Wide, Field.
-/
import Derived.Test.YtnhfbpikfkncpaaNumA
namespace Go.Proofs.Ytnhfbpikfkncpaa
open Go.RowKit
set_option linter.unusedVariables false
set_option linter.unusedSimpArgs false

theorem told_none {s : List Int × Bool} {w w' : World} (h : s = ([], false)) (hk : Kept NoB w w') : ToldB s w (.returned (.tuple #[.slice none 0 0, .bool false])) w' := by
  rw [h]; exact ⟨none, 0, rfl, ⟨fun _ => rfl, fun a ha => by cases ha⟩, fun _ => rfl, Nat.le_refl _, Nat.zero_le _, hk⟩
theorem told_row {xs : List Int} {s : List Int × Bool} {w w' : World} {C N : Nat} (h : s = (xs, true)) (hl : xs.length = N) (hN : N ≤ 100) (ho : w'.ownsRow 0 5 1 (.slice (some ⟨C, 0, none⟩) N N) N (xs.map (.int .u8))) (hk : Kept NoB w w') :
    ToldB s w (.returned (.tuple #[.slice (some ⟨C, 0, none⟩) N N, .bool true])) w' := by
  subst hl
  rw [h]
  exact ⟨some ⟨C, 0, none⟩, xs.length, rfl, own_reads ho rfl, (fun h => by cases h), Nat.le_refl _, (by unfold maxLen; omega), hk⟩

set_option maxRecDepth 20000 in
set_option maxHeartbeats 4000000 in
theorem wide_any (n wd : Int) (w : World) (hn : -9223372036854775808 ≤ n ∧ n ≤ 9223372036854775807) : Calls Try.prog 46 #[.int .i64 n, .int .i64 wd] w (ToldB (wideS n wd) w) := by
  obtain ⟨i0, hi, hz0, hz1, hz2⟩ := info_parts info5
  by_cases hw : 2 ≤ wd ∧ wd ≤ 12
  · have hok := okw_any wd
    rw [decide_eq_true hw] at hok
    have HOk := Lib.hid hok
    clear hok
    obtain ⟨K, rfl⟩ : ∃ K : Nat, wd = ((K + 1 : Nat) : Int) := ⟨wd.toNat - 1, by omega⟩
    have hK : 1 ≤ K ∧ K ≤ 11 := by omega
    clear hw
    go_enter Try.func46, Try.ntmps46
    go_wp2_with fail
    refine (HOk.out _).mono ?_
    rintro e w1 ⟨rfl, rfl⟩
    go_wp2_with (at_make; refine wpList_make_full _ rfl _ _ _ rfl 0 5 i0 (.int .u8 0) 1 Try.underlying24 hi hz0 hz1 .i64 .i64 _ _ (K + 1) rfl rfl rfl rfl (by rw [hz2]; omega) (by unfold maxLen; omega) (Nat.zero_le _) ?_)
    intro w2 hown hgrow
    have hown0 : w2.ownsRow 0 5 1 (.slice (some ⟨w.heap.size, 0, none⟩) (K + 1) (K + 1)) (K + 1) ((fld (wc8 n) K 0 false).map (.int .u8)) := by
      rw [fld_zero, List.map_replicate, ← toList_madeCells_one]
      exact hown
    have hk2 : Kept NoB w w2 := (Kept.refl NoB w).grown hgrow (fun _ _ e => by cases e)
    clear hown hgrow
    obtain ⟨C, hC⟩ : ∃ C, C = w.heap.size := ⟨_, rfl⟩
    rw [← hC] at hown0 ⊢
    have HC := Lib.hid hC; have HO0 := Lib.hid hown0; have HK2 := Lib.hid hk2
    clear hC hown0 hk2
    have HRg := Lib.hid (fun t => sh_range n t _ _ (by decide) (by decide) hn)
    go_wp2
    go_loopw [7, 8] (fun v7 v8 wr => ∃ (t : Nat) (x i : Int), t ≤ K ∧ v7 = .int .i64 x ∧ v8 = .int .i64 i ∧ Hid (x = sh 256 n t) ∧ i = (K : Int) - t ∧ Hid (wr.ownsRow 0 5 1 (.slice (some ⟨C, 0, none⟩) (K + 1) (K + 1)) (K + 1) ((fld (wc8 n) K t false).map (.int .u8))) ∧ Hid (Kept NoB w wr)) (fun _ v8 _ => (intOf v8).toNat)
    case atStart => exact ⟨0, n, _, by omega, rfl, rfl, rfl, by omega, HO0.out, HK2.out⟩
    case round =>
      obtain ⟨t, x, i, ht, rfl, rfl, HX, hit, HO, HK⟩ := hrel
      have hxr : -9223372036854775808 ≤ x ∧ x ≤ 9223372036854775807 := by have := HRg.out t; rw [← HX.out] at this; exact this
      by_cases hge : 0 < i
      · obtain ⟨q, rfl⟩ : ∃ q : Nat, i = q := ⟨i.toNat, by omega⟩
        have hqK : q = K - t := by omega
        have htK : t < K := by omega
        have hwc : wc8 n t = x % 256 := by unfold wc8; rw [← HX.out]
        have hst : (wr.setCell ⟨C, q, none⟩ (.int .u8 (x % 256))).ownsRow 0 5 1 (.slice (some ⟨C, 0, none⟩) (K + 1) (K + 1)) (K + 1) ((fld (wc8 n) K (t + 1) false).map (.int .u8)) := by
          rw [← fld_wide _ _ _ htK, List.map_set, ← hqK, hwc]
          exact (HO.out.stored q (.int .u8 (x % 256))).1
        have hkn : Kept NoB w (wr.setCell ⟨C, q, none⟩ (.int .u8 (x % 256))) := Kept.setCell (p := ⟨C, q, none⟩) HK.out (.inr (show w.heap.size ≤ C by have := HC.out; omega)) _
        have hlt : q < (fld (wc8 n) K t false).length := by rw [fld_len]; omega
        have hcz : ∃ u, wr.cell? ⟨C, q, none⟩ = some u := ⟨_, by rw [HO.out.cellAt q (by omega), List.getElem?_map, List.getElem?_eq_getElem hlt]; rfl⟩
        obtain ⟨u, hcz⟩ := hcz
        have hfz : wr.frozen? ⟨C, q, none⟩ = false := HO.out.frozenAt _
        have HSt := Lib.hid hst; have HKn := Lib.hid hkn
        have hm0 : 0 ≤ x % 256 ∧ x % 256 < 256 := by omega
        have hxn : Hid (x / 256 = sh 256 n (t + 1)) := by rw [HX.out]; rfl
        have hqn : (q : Int) < K + 1 := by omega
        have HIt := Lib.hid hit; have HHt := Lib.hid htK; have HH := Lib.hid ht
        clear hst hkn hwc hlt hqK hit
        go_wp2
        go_roundw
        case rel => exact ⟨t + 1, _, _, by omega, rfl, rfl, hxn, by have := HIt.out; omega, HSt.out, HKn.out⟩
        case measure => simp [intOf]; omega
      · have htK : t = K := by omega
        have hi0 : i = 0 := by omega
        subst htK hi0
        have hx55 : -36028797018963968 ≤ x ∧ x ≤ 36028797018963967 := by
          obtain ⟨k, rfl⟩ : ∃ k, t = k + 1 := ⟨t - 1, by omega⟩
          have h1 := HRg.out k
          have h2 : x = sh 256 n k / 256 := HX.out
          omega
        have hlt : 0 < (fld (wc8 n) t t false).length := by rw [fld_len]; omega
        have hcz : ∃ u, wr.cell? ⟨C, 0, none⟩ = some u := ⟨_, by rw [HO.out.cellAt 0 (by omega), List.getElem?_map, List.getElem?_eq_getElem hlt]; rfl⟩
        obtain ⟨u, hcz⟩ := hcz
        have hfz : wr.frozen? ⟨C, 0, none⟩ = false := HO.out.frozenAt _
        have hst : (wr.setCell ⟨C, 0, none⟩ (.int .u8 128)).ownsRow 0 5 1 (.slice (some ⟨C, 0, none⟩) (t + 1) (t + 1)) (t + 1) (((fld (wc8 n) t t false).set 0 128).map (.int .u8)) := by
          rw [List.map_set]
          exact (HO.out.stored 0 (.int .u8 128)).1
        have hkn : Kept NoB w (wr.setCell ⟨C, 0, none⟩ (.int .u8 128)) := Kept.setCell (p := ⟨C, 0, none⟩) HK.out (.inr (show w.heap.size ≤ C by have := HC.out; omega)) _
        have HSt := Lib.hid hst; have HKn := Lib.hid hkn
        have HWd : Hid ((if n < 0 then x = -1 else x = 0) → wideS n ((t + 1 : Nat) : Int) = ((fld (wc8 n) t t false).set 0 (if n < 0 then 255 else 128), true)) := fun h => by
          unfold wideS
          rw [show ((t + 1 : Nat) : Int).toNat - 1 = t by omega, ← HX.out, if_pos ⟨by omega, by omega, h⟩]
        have HWn : Hid (¬ (if n < 0 then x = -1 else x = 0) → wideS n ((t + 1 : Nat) : Int) = ([], false)) := fun h => by
          unfold wideS
          rw [show ((t + 1 : Nat) : Int).toNat - 1 = t by omega, ← HX.out, if_neg (fun h' => h h'.2.2)]
        clear hst hkn hlt hit
        go_upto_region 11 with fail
        clear hcz hfz
        generalize wr.setCell ⟨C, 0, none⟩ (.int .u8 128) = wn at HSt HKn ⊢
        have hll : (fld (wc8 n) t t false).length = t + 1 := fld_len _ _ _ _
        by_cases hneg : n < 0
        · have hcz3 : wn.cell? ⟨C, 0, none⟩ = some (.int .u8 128) := by
            rw [HSt.out.cellAt 0 (by omega), List.getElem?_map, List.getElem?_set_self (by omega)]; rfl
          have hfz3 : wn.frozen? ⟨C, 0, none⟩ = false := HSt.out.frozenAt _
          have hst : (wn.setCell ⟨C, 0, none⟩ (.int .u8 255)).ownsRow 0 5 1 (.slice (some ⟨C, 0, none⟩) (t + 1) (t + 1)) (t + 1) (((fld (wc8 n) t t false).set 0 255).map (.int .u8)) := by
            have h := (HSt.out.stored 0 (.int .u8 255)).1
            rw [← List.map_set, List.set_set] at h
            exact h
          have hkn : Kept NoB w (wn.setCell ⟨C, 0, none⟩ (.int .u8 255)) := Kept.setCell (p := ⟨C, 0, none⟩) HKn.out (.inr (show w.heap.size ≤ C by have := HC.out; omega)) _
          have HSt2 := Lib.hid hst; have HKn2 := Lib.hid hkn
          have HLl := Lib.hid hll
          clear hst hkn hll
          by_cases hx : x = -1
          · have hs := HWd.out (by rw [if_pos hneg]; exact hx)
            rw [if_pos hneg] at hs
            have HS := Lib.hid hs
            clear hs
            subst hx
            go_wp2
            go_ret2
            exact told_row HS.out (by rw [List.length_set]; exact HLl.out) (by omega) HSt2.out HKn2.out
          · have hs := HWn.out (by rw [if_pos hneg]; exact hx)
            have HS := Lib.hid hs
            have hx1 : (x + 1 == 0) = false := by simp; omega
            clear hs hx
            go_wp2
            go_ret2
            exact told_none HS.out HKn2.out
        · have HLl := Lib.hid hll
          clear hll
          by_cases hx : x = 0
          · have hs := HWd.out (by rw [if_neg hneg]; exact hx)
            rw [if_neg hneg] at hs
            have HS := Lib.hid hs
            clear hs
            subst hx
            go_wp2
            go_ret2
            exact told_row HS.out (by rw [List.length_set]; exact HLl.out) (by omega) HSt.out HKn.out
          · have hs := HWn.out (by rw [if_neg hneg]; exact hx)
            have HS := Lib.hid hs
            have hx1 : (x == 0) = false := by simp; omega
            clear hs hx
            go_wp2
            go_ret2
            exact told_none HS.out HKn.out
  · have hok := okw_any wd
    rw [decide_eq_false hw] at hok
    have hs : wideS n wd = ([], false) := by unfold wideS; rw [if_neg (by omega)]
    have HS := Lib.hid hs; have HOk := Lib.hid hok
    clear hs hok hw
    go_enter Try.func46, Try.ntmps46
    go_wp2_with fail
    refine (HOk.out _).mono ?_
    rintro e w1 ⟨rfl, rfl⟩
    go_wp2
    go_ret2
    exact told_none HS.out (Kept.refl _ _)
end Go.Proofs.Ytnhfbpikfkncpaa
