/-
  num: okWidth, Octal, Wide.
-/
import Derived.Test.YtnhfbpikfkncpaaOctN
import Derived.Test.YtnhfbpikfkncpaaMask
import Derived.OwnWalk
namespace Go.Proofs.Ytnhfbpikfkncpaa
open Go.RowKit
set_option linter.unusedVariables false
set_option linter.unusedSimpArgs false

/-- A row of bytes told, and whether. -/
def ToldB (s : List Int × Bool) (w : World) (e : Ending) (w' : World) : Prop :=
  ∃ ao cap, e = .returned (.tuple #[.slice ao s.1.length cap, .bool s.2]) ∧ Hid (Reads w' ao s.1) ∧ Hid (ao = none → cap = 0) ∧ s.1.length ≤ cap ∧ cap ≤ maxLen ∧ Kept NoB w w'

theorem okw_any (wd : Int) (w : World) : Calls Try.prog 37 #[.int .i64 wd] w fun e w' => e = .returned (.bool (decide (2 ≤ wd ∧ wd ≤ 12))) ∧ w = w' := by
  go_enter Try.func37, Try.ntmps37
  by_cases h1 : 2 ≤ wd
  · by_cases h2 : wd ≤ 12
    · go_wp2
      go_ret
      exact ⟨by rw [decide_eq_true (by omega)]; rfl, rfl⟩
    · go_wp2
      go_ret
      exact ⟨by rw [decide_eq_false (by omega)]; rfl, rfl⟩
  · go_wp2
    go_ret
    exact ⟨by rw [decide_eq_false (by omega)]; rfl, rfl⟩

set_option maxRecDepth 20000 in
set_option maxHeartbeats 2000000 in
theorem octal_any (n wd : Int) (w : World) (hn : -9223372036854775808 ≤ n ∧ n ≤ 9223372036854775807) : Calls Try.prog 24 #[.int .i64 n, .int .i64 wd] w (ToldB (octS n wd) w) := by
  obtain ⟨i0, hi, hz0, hz1, hz2⟩ := info_parts info5
  have hnone : octS n wd = ([], false) → ToldB (octS n wd) w (.returned (.tuple #[.slice none 0 0, .bool false])) w := fun h => by
    rw [h]; exact ⟨none, 0, rfl, ⟨fun _ => rfl, fun a ha => by cases ha⟩, fun _ => rfl, Nat.le_refl _, Nat.zero_le _, Kept.refl _ _⟩
  have HNone := Lib.hid hnone
  clear hnone
  by_cases hw : 2 ≤ wd ∧ wd ≤ 12
  · have hok := okw_any wd
    rw [decide_eq_true hw] at hok
    have HOk := Lib.hid hok
    clear hok
    by_cases h0 : n < 0
    · have hs : octS n wd = ([], false) := by unfold octS; rw [if_neg (by omega)]
      have HS := Lib.hid hs
      clear hs
      go_enter Try.func24, Try.ntmps24
      go_wp2_with fail
      refine (HOk.out _).mono ?_
      rintro e w1 ⟨rfl, rfl⟩
      go_wp2
      go_ret2
      exact HNone.out HS.out
    · obtain ⟨K, rfl⟩ : ∃ K : Nat, wd = ((K + 1 : Nat) : Int) := ⟨wd.toNat - 1, by omega⟩
      have hK : 1 ≤ K ∧ K ≤ 11 := by omega
      have hK2 : ((K + 1 : Nat) : Int) - 2 = (K : Int) - 1 := by omega
      have hw2 : IntKind.i64.wrap ((K : Int) - 1) = (K : Int) - 1 := IntWalk.i64_in _ (by omega)
      clear hw
      go_enter Try.func24, Try.ntmps24
      go_wp2_with fail
      refine (HOk.out _).mono ?_
      rintro e w1 ⟨rfl, rfl⟩
      go_wp2_with (at_make; refine wpList_make_full _ rfl _ _ _ rfl 0 5 i0 (.int .u8 0) 1 Try.underlying24 hi hz0 hz1 .i64 .i64 _ _ (K + 1) rfl rfl rfl rfl (by rw [hz2]; omega) (by unfold maxLen; omega) (Nat.zero_le _) ?_)
      intro w2 hown hgrow
      have hown0 : w2.ownsRow 0 5 1 (.slice (some ⟨w.heap.size, 0, none⟩) (K + 1) (K + 1)) (K + 1) ((fld (oc n) K 0 true).map (.int .u8)) := by
        rw [fld_zero, List.map_replicate, ← toList_madeCells_one]
        exact hown
      have hk2 : Kept NoB w w2 := (Kept.refl NoB w).grown hgrow (fun _ _ e => by cases e)
      clear hown hgrow
      obtain ⟨C, hC⟩ : ∃ C, C = w.heap.size := ⟨_, rfl⟩
      rw [← hC] at hown0 ⊢
      have HC := Lib.hid hC; have HO0 := Lib.hid hown0; have HK2 := Lib.hid hk2
      clear hC hown0 hk2
      have hn0 : 0 ≤ n := by omega
      have hrange := fun t => sh_nonneg 8 n (by decide) hn0 t
      have HRg := Lib.hid hrange
      clear hrange hn0 h0
      go_wp2
      go_loopw [0, 7] (fun v0 v7 wr => ∃ (t : Nat) (x i : Int), t ≤ K ∧ v0 = .int .i64 x ∧ v7 = .int .i64 i ∧ Hid (x = sh 8 n t) ∧ i = (K : Int) - 1 - t ∧ Hid (wr.ownsRow 0 5 1 (.slice (some ⟨C, 0, none⟩) (K + 1) (K + 1)) (K + 1) ((fld (oc n) K t true).map (.int .u8))) ∧ Hid (Kept NoB w wr)) (fun _ v7 _ => (intOf v7 + 1).toNat)
      case atStart => exact ⟨0, n, _, by omega, rfl, rfl, rfl, by omega, HO0.out, HK2.out⟩
      case round =>
        obtain ⟨t, x, i, ht, rfl, rfl, HX, hit, HO, HK⟩ := hrel
        have hxr : 0 ≤ x ∧ x ≤ 9223372036854775807 := by have := HRg.out t; rw [← HX.out] at this; omega
        by_cases hge : 0 ≤ i
        · obtain ⟨q, rfl⟩ : ∃ q : Nat, i = q := ⟨i.toNat, (Int.toNat_of_nonneg hge).symm⟩
          have hqK : q = K - 1 - t := by omega
          have htK : t < K := by omega
          have hst : (wr.setCell ⟨C, q, none⟩ (.int .u8 (oc n t))).ownsRow 0 5 1 (.slice (some ⟨C, 0, none⟩) (K + 1) (K + 1)) (K + 1) ((fld (oc n) K (t + 1) true).map (.int .u8)) := by
            rw [← fld_octal _ _ _ htK, List.map_set, ← hqK]
            exact (HO.out.stored q (.int .u8 (oc n t))).1
          have hkn : Kept NoB w (wr.setCell ⟨C, q, none⟩ (.int .u8 (oc n t))) := Kept.setCell (p := ⟨C, q, none⟩) HK.out (.inr (show w.heap.size ≤ C by have := HC.out; omega)) _
          have hlt : q < (fld (oc n) K t true).length := by rw [fld_len]; omega
          have hcz : ∃ u, wr.cell? ⟨C, q, none⟩ = some u := ⟨_, by rw [HO.out.cellAt q (by omega), List.getElem?_map, List.getElem?_eq_getElem hlt]; rfl⟩
          obtain ⟨u, hcz⟩ := hcz
          have hfz : wr.frozen? ⟨C, q, none⟩ = false := HO.out.frozenAt _
          have HSt := Lib.hid hst; have HKn := Lib.hid hkn
          have hoc : oc n t = 48 + x % 8 := by unfold oc; rw [← HX.out]
          rw [hoc] at HSt HKn
          have hm := mask7 x
          have hm0 : 0 ≤ x % 8 ∧ x % 8 < 8 := by omega
          have hxn : Hid (x / 8 = sh 8 n (t + 1)) := by rw [HX.out]; rfl
          have hx8 : 0 ≤ x / 8 ∧ x / 8 ≤ 9223372036854775807 := by omega
          have HXn := hxn
          have hqn : (q : Int) < K + 1 := by omega
          have HIt := Lib.hid hit; have HHt := Lib.hid htK; have HH := Lib.hid ht
          clear hst hkn hoc hlt hqK hit
          go_wp2
          go_roundw
          case rel => exact ⟨t + 1, _, _, by omega, rfl, rfl, hxn, by have := HIt.out; omega, HSt.out, HKn.out⟩
          case measure => simp [intOf]
        · have htK : t = K := by omega
          subst htK
          by_cases hx0 : x = 0
          · subst hx0
            have hs : octS n ((t + 1 : Nat) : Int) = (fld (oc n) t t true, true) := by
              unfold octS
              rw [show ((t + 1 : Nat) : Int).toNat - 1 = t by omega, if_pos ⟨by omega, by omega, by omega, HX.out.symm⟩]
            have HS := Lib.hid hs
            clear hs hit
            go_wp2
            go_ret2
            have hs := HS.out
            push_cast at hs ⊢
            rw [hs]
            refine ⟨some ⟨C, 0, none⟩, t + 1, ?_, ?_, fun h => (by cases h), ?_, (by unfold maxLen; omega), HK.out⟩
            · rw [fld_len]; rfl
            · exact own_reads (n := t + 1) (cap := t + 1) (by rw [fld_len]; exact HO.out) (fld_len _ _ _ _).symm
            · rw [fld_len]; exact Nat.le_refl _
          · have hs : octS n ((t + 1 : Nat) : Int) = ([], false) := by
              unfold octS
              rw [show ((t + 1 : Nat) : Int).toNat - 1 = t by omega, if_neg (fun h => hx0 (by rw [HX.out]; exact h.2.2.2))]
            have HS := Lib.hid hs
            have hxp : 0 < x := by omega
            clear hs hit
            go_wp2
            go_ret2
            have hs := HS.out
            push_cast at hs ⊢
            rw [hs]
            exact ⟨none, 0, rfl, ⟨fun _ => rfl, fun a ha => by cases ha⟩, fun _ => rfl, Nat.le_refl _, Nat.zero_le _, HK.out⟩
  · have hok := okw_any wd
    rw [decide_eq_false hw] at hok
    have hs : octS n wd = ([], false) := by unfold octS; rw [if_neg (by omega)]
    have HS := Lib.hid hs; have HOk := Lib.hid hok
    clear hs hok hw
    go_enter Try.func24, Try.ntmps24
    go_wp2_with fail
    refine (HOk.out _).mono ?_
    rintro e w1 ⟨rfl, rfl⟩
    go_wp2
    go_ret2
    exact HNone.out HS.out
end Go.Proofs.Ytnhfbpikfkncpaa
