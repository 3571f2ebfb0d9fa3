/-
  What was written of a file, in memory: how many bytes fit.
  A tree of files in memory: what a node may be: links and devices.
-/
import Derived.Test.YtgbakogihkdddaaGreatDoorMx6
namespace Go.Proofs.YtgbakogihkdddaaGreatDoor
open Go.RowKit
set_option linter.unusedVariables false
set_option linter.unusedSimpArgs false
set_option maxRecDepth 20000

theorem ahead_at {l : List Fp} {k : Int} {j : Nat} (hj : j < l.length) (h : j < (aheadP l k).length) : endP l[j] < k := by
  have h1 : (aheadP l k)[j]? = l[j]? := by
    conv => rhs; rw [split3 l k k]
    rw [List.getElem?_append_left h]
  have h2 := List.getElem?_eq_getElem h
  rw [h1, List.getElem?_eq_getElem hj] at h2
  have := ahead_end _ (List.getElem_mem h)
  rw [← Option.some.inj h2] at this
  exact this
set_option maxHeartbeats 4000000 in
theorem fitting_any (l : List Fp) (hl : OkD l) (a : Option Addr) (c : Nat) (k : Int) (size : Nat) (room : Nat) (w : World) (hr : RdD w a l) (hc : l.length ≤ c) (hcm : c ≤ maxLen) (hlen : l.length ≤ 1099511627776) (hk : 0 ≤ k) (hks : k + (size : Int) ≤ 1099511627776) (hroom : (room : Int) ≤ 4611686018427387904) :
    Calls Tryz.prog 29 #[.slice a l.length c, .int .i64 k, .int .i64 (size : Int), .int .i64 (room : Int)] w fun e w' =>
      e = .returned (.tuple #[.int .i64 ((fitB (isD l) size k room).1 : Int), .int .i64 ((fitB (isD l) size k room).2 : Int)]) ∧ Kept NoB w w' := by
  have HA := Lib.hid (after_any l hl a c k w hr hc hcm hlen (by omega))
  obtain ⟨i0, hi0⟩ : ∃ i0, i0 = (aheadP l (k + 1)).length := ⟨_, rfl⟩
  rw [← hi0] at HA
  have hsp := split3 l (k + 1) (k + 1)
  have hi0l : i0 ≤ l.length := by rw [hi0]; conv => rhs; rw [hsp]
                                  simp
  have hst : FitS l size k room 0 0 i0 := by
    refine FitS.start l size k room i0 (fun j hj hji => ?_) (fun j hj hij => ?_)
    · have := ahead_at (k := k + 1) hj (by omega)
      omega
    · have hd := drop_end hl (k + 1)
      have e : l.dropWhile (fun p => decide (endP p < k + 1)) = l.drop i0 := by
        have h1 := List.takeWhile_append_dropWhile (p := fun p => decide (endP p < k + 1)) (l := l)
        conv => rhs; rw [← h1]
        rw [hi0]; unfold aheadP; rw [List.drop_left]
      rw [e] at hd
      have hm : l[j] ∈ l.drop i0 := by
        rw [List.mem_iff_getElem]
        exact ⟨j - i0, by simp; omega, by simp; congr 1; omega⟩
      have := hd _ hm
      omega
  obtain ⟨F, hF⟩ : ∃ F, F = fitB (isD l) size k room := ⟨_, rfl⟩
  rw [← hF]
  have HF := Lib.hid hF; have HSt := Lib.hid hst; have HR := Lib.hid hr; have HL := Lib.hid hl; have HI0 := Lib.hid hi0l
  have hcm2 : (c : Int) ≤ 9223372036854775807 := by unfold maxLen at hcm; omega
  obtain ⟨n, hn⟩ : ∃ n, n = l.length := ⟨_, rfl⟩
  have HN := Lib.hid hn
  rw [← hn] at hc hlen HA ⊢
  clear hF hst hr hl hi0 hi0l hsp hn hcm
  go_enter Tryz.func29, Tryz.ntmps29
  go_wp2_with fail
  refine HA.out.mono ?_
  rintro e w1 ⟨rfl, hk1⟩
  have HK1 := Lib.hid hk1
  clear hk1 HA
  go_wp2
  go_loopw [9, 10, 12, 13, 14, 15] (fun v9 v10 v12 _v13 _v14 _v15 wr => ∃ d fr i : Nat, v9 = .int .i64 (fr : Int) ∧ v10 = .int .i64 (k + (d : Int)) ∧ v12 = .int .i64 (i : Int) ∧ d ≤ size ∧ fr ≤ room ∧ i ≤ n + d ∧ Hid (FitS l size k room d fr i ∧ Kept NoB w wr)) (fun _ v10 _ _ _ _ _ => (k + (size : Int) - intOf v10).toNat)
  case atStart => exact ⟨0, 0, i0, rfl, by simp, rfl, by omega, by omega, by have := HI0.out; have := HN.out; omega, Lib.hid ⟨HSt.out, HK1.out⟩⟩
  case round =>
    obtain ⟨d, fr, i, rfl, rfl, rfl, hd, hfr, hin, HS⟩ := hrel
    by_cases hlt : (d : Int) < (size : Int)
    · by_cases hil : (i : Int) < (n : Int)
      · have hil' : i < l.length := by have := HN.out; omega
        obtain ⟨b, off, bo, bc, rfl, c0, c1, q1, q2⟩ := HR.out i hil'
        have hp := HL.out.each l[i] (List.getElem_mem hil')
        have hbh := HS.out.1.behind (by omega) i hil' (Nat.le_refl _)
        obtain ⟨p, hpe⟩ : ∃ p, p = l[i] := ⟨_, rfl⟩
        rw [← hpe] at c0 c1 q1 hp hbh
        have HP := Lib.hid hpe
        clear hpe
        obtain ⟨z, hz⟩ : ∃ z, z = p.1 := ⟨_, rfl⟩
        obtain ⟨m, hm⟩ : ∃ m, m = p.2.length := ⟨_, rfl⟩
        have hE : endP p = z + (m : Int) := by rw [hz, hm]; rfl
        rw [hE] at hp hbh
        rw [← hz] at c0 hp
        rw [← hm] at c1 q1
        rw [show off + (i * 2 + 1) = off + i * 2 + 1 by omega] at c1
        have hz0 := hp.1
        have hz2 := hp.2.2
        have HE : Hid (∀ W, Calls Tryz.prog 47 #[.agg #[.int .i64 z, .slice bo m bc]] W fun e w' => e = .returned (.int .i64 (z + (m : Int))) ∧ Kept NoB W w') := Lib.hid (fun W => (end_any z m bo bc W ⟨hz0, by omega⟩).mono (by rintro e w' ⟨rfl, rfl⟩; exact ⟨rfl, (Kept.refl NoB W).alloc _⟩))
        have D0 : ∀ W, Kept NoB w W → W.cell? ⟨b, off + i * 2, none⟩ = some (.int .i64 z) := fun W hk => hk.cell c0
        have D1 : ∀ W, Kept NoB w W → W.cell? ⟨b, off + i * 2 + 1, none⟩ = some (.slice bo m bc) := fun W hk => hk.cell c1
        have HZ := Lib.hid (⟨hz, hm, hE, hp.2.1⟩ : _ ∧ _ ∧ _ ∧ _)
        have hkr := HS.out.2
        clear hz hm hE hp c0 c1
        have h3 : (z ≤ (k + (size : Int)) ∧ z + (m : Int) ≤ (k + (size : Int))) ∨ (z ≤ (k + (size : Int)) ∧ (k + (size : Int)) < z + (m : Int)) ∨ ((k + (size : Int)) < z ∧ (k + (size : Int)) < z + (m : Int)) := by omega
        rcases h3 with h3 | h3 | h3
        · obtain ⟨hA, hB⟩ := h3
          go_upto_region 7 with fail
          go_region_held3 (fun W => Kept NoB w W) (first | assumption | exact Kept.drew (by assumption) | exact Kept.trans (by assumption) hkn) ((go_at_call 47; ((with_reducible refine (HE.out _).mono ?_); rintro e wn ⟨rfl, hkn⟩)))
          all_goals (try rw [if_neg (show ¬ (k + (size : Int) < z) by omega)])
          all_goals (try rw [if_neg (show ¬ (k + (size : Int) < z + (m : Int)) by omega)])
          all_goals
            have hkw : Kept NoB w wn := by assumption
            have HKw := Lib.hid hkw
            clear hkw hkn hkr D0 D1 HE
            by_cases hg : 0 < z - (k + (d : Int))
            · obtain ⟨g, hge⟩ : ∃ g : Nat, z = k + (d : Int) + (g : Int) := ⟨(z - (k + (d : Int))).toNat, by omega⟩
              have hgd : d + g ≤ size := by omega
              have hG := HS.out.1.gap HL.out (g := g) hgd (fun j hj hij => by
                have e := HZ.out.1; have e2 := HP.out
                rcases Nat.lt_or_ge i j with h | h
                · have := List.pairwise_iff_getElem.1 HL.out.apart i j hil' hj h
                  rw [← e2, HZ.out.2.2.1] at this; omega
                · have : j = i := by omega
                  subst this; rw [← e2, ← e]; omega)
              by_cases hrm : (room : Int) - (fr : Int) < z - (k + (d : Int))
              · have hF2 : F = (d + (room - fr), room) := by rw [HF.out]; exact hG.1 (by omega)
                have HF2 := Lib.hid hF2
                clear hF2 hG
                go_wp2
                go_ret2
                refine ⟨?_, HKw.out⟩
                rw [HF2.out]
                have e : k + (d : Int) - k + (room : Int) - (fr : Int) = ((d + (room - fr) : Nat) : Int) := by omega
                exact congrArg (fun x => Ending.returned (.tuple #[.int .i64 x, .int .i64 (room : Int)])) e
              · have hG2 := hG.2 (by omega)
                obtain ⟨h, hhe⟩ : ∃ h : Nat, (z + (m : Int)) = k + (d : Int) + (g : Int) + (h : Int) := ⟨((z + (m : Int)) - (k + (d : Int) + (g : Int))).toNat, by omega⟩
                have hW := hG2.within HL.out hil' (g := h) (by omega) (fun hh => by have e := HZ.out.1; rw [← HP.out, ← e]; omega) (by rw [← HP.out, HZ.out.2.2.1]; omega) (fun hh => by rw [← HP.out, HZ.out.2.2.1]; omega)
                have HW := Lib.hid hW
                clear hG hG2 hW
                by_cases hnx : d + g + h < size
                · have hW2 : Hid (FitS l size k room (d + g + h) (fr + g) (i + 1)) := Lib.hid (by have := HW.out; rw [if_pos hnx] at this; exact this)
                  clear HW
                  go_wp2
                  all_goals refine ⟨⟨d + g + h, fr + g, i + 1, by go_num, by congr 1; omega, by go_num, by omega, by omega, by omega, Lib.hid ⟨hW2.out, HKw.out⟩⟩, by simp [intOf]; omega⟩
                · have hW2 : Hid (FitS l size k room (d + g + h) (fr + g) i) := Lib.hid (by have := HW.out; rw [if_neg hnx] at this; exact this)
                  clear HW
                  go_wp2
                  all_goals refine ⟨⟨d + g + h, fr + g, i + 1, by go_num, by congr 1; omega, by go_num, by omega, by omega, by omega, Lib.hid ⟨hW2.out.more (by omega), HKw.out⟩⟩, by simp [intOf]; omega⟩
            · obtain ⟨h, hhe⟩ : ∃ h : Nat, (z + (m : Int)) = k + (d : Int) + (h : Int) := ⟨((z + (m : Int)) - (k + (d : Int))).toNat, by omega⟩
              have hW := HS.out.1.within HL.out hil' (g := h) (by omega) (fun hh => by have e := HZ.out.1; rw [← HP.out, ← e]; omega) (by rw [← HP.out, HZ.out.2.2.1]; omega) (fun hh => by rw [← HP.out, HZ.out.2.2.1]; omega)
              have HW := Lib.hid hW
              clear hW
              by_cases hnx : d + h < size
              · have hW2 : Hid (FitS l size k room (d + h) fr (i + 1)) := Lib.hid (by have := HW.out; rw [if_pos hnx] at this; exact this)
                clear HW
                go_wp2
                all_goals refine ⟨⟨d + h, fr, i + 1, by go_num, by congr 1; omega, by go_num, by omega, by omega, by omega, Lib.hid ⟨hW2.out, HKw.out⟩⟩, by simp [intOf]; omega⟩
              · have hW2 : Hid (FitS l size k room (d + h) fr i) := Lib.hid (by have := HW.out; rw [if_neg hnx] at this; exact this)
                clear HW
                go_wp2
                all_goals refine ⟨⟨d + h, fr, i + 1, by go_num, by congr 1; omega, by go_num, by omega, by omega, by omega, Lib.hid ⟨hW2.out.more (by omega), HKw.out⟩⟩, by simp [intOf]; omega⟩
        · obtain ⟨hA, hB⟩ := h3
          go_upto_region 7 with fail
          go_region_held3 (fun W => Kept NoB w W) (first | assumption | exact Kept.drew (by assumption) | exact Kept.trans (by assumption) hkn) ((go_at_call 47; ((with_reducible refine (HE.out _).mono ?_); rintro e wn ⟨rfl, hkn⟩)))
          all_goals (try rw [if_neg (show ¬ (k + (size : Int) < z) by omega)])
          all_goals
            have hkw : Kept NoB w wn := by assumption
            have HKw := Lib.hid hkw
            clear hkw hkn hkr D0 D1 HE
            by_cases hg : 0 < z - (k + (d : Int))
            · obtain ⟨g, hge⟩ : ∃ g : Nat, z = k + (d : Int) + (g : Int) := ⟨(z - (k + (d : Int))).toNat, by omega⟩
              have hgd : d + g ≤ size := by omega
              have hG := HS.out.1.gap HL.out (g := g) hgd (fun j hj hij => by
                have e := HZ.out.1; have e2 := HP.out
                rcases Nat.lt_or_ge i j with h | h
                · have := List.pairwise_iff_getElem.1 HL.out.apart i j hil' hj h
                  rw [← e2, HZ.out.2.2.1] at this; omega
                · have : j = i := by omega
                  subst this; rw [← e2, ← e]; omega)
              by_cases hrm : (room : Int) - (fr : Int) < z - (k + (d : Int))
              · have hF2 : F = (d + (room - fr), room) := by rw [HF.out]; exact hG.1 (by omega)
                have HF2 := Lib.hid hF2
                clear hF2 hG
                go_wp2
                go_ret2
                refine ⟨?_, HKw.out⟩
                rw [HF2.out]
                have e : k + (d : Int) - k + (room : Int) - (fr : Int) = ((d + (room - fr) : Nat) : Int) := by omega
                exact congrArg (fun x => Ending.returned (.tuple #[.int .i64 x, .int .i64 (room : Int)])) e
              · have hG2 := hG.2 (by omega)
                obtain ⟨h, hhe⟩ : ∃ h : Nat, (k + (size : Int)) = k + (d : Int) + (g : Int) + (h : Int) := ⟨((k + (size : Int)) - (k + (d : Int) + (g : Int))).toNat, by omega⟩
                have hW := hG2.within HL.out hil' (g := h) (by omega) (fun hh => by have e := HZ.out.1; rw [← HP.out, ← e]; omega) (by rw [← HP.out, HZ.out.2.2.1]; omega) (fun hh => by rw [← HP.out, HZ.out.2.2.1]; omega)
                have HW := Lib.hid hW
                clear hG hG2 hW
                by_cases hnx : d + g + h < size
                · have hW2 : Hid (FitS l size k room (d + g + h) (fr + g) (i + 1)) := Lib.hid (by have := HW.out; rw [if_pos hnx] at this; exact this)
                  clear HW
                  go_wp2
                  all_goals refine ⟨⟨d + g + h, fr + g, i + 1, by go_num, by congr 1; omega, by go_num, by omega, by omega, by omega, Lib.hid ⟨hW2.out, HKw.out⟩⟩, by simp [intOf]; omega⟩
                · have hW2 : Hid (FitS l size k room (d + g + h) (fr + g) i) := Lib.hid (by have := HW.out; rw [if_neg hnx] at this; exact this)
                  clear HW
                  go_wp2
                  all_goals refine ⟨⟨d + g + h, fr + g, i + 1, by go_num, by congr 1; omega, by go_num, by omega, by omega, by omega, Lib.hid ⟨hW2.out.more (by omega), HKw.out⟩⟩, by simp [intOf]; omega⟩
            · obtain ⟨h, hhe⟩ : ∃ h : Nat, (k + (size : Int)) = k + (d : Int) + (h : Int) := ⟨((k + (size : Int)) - (k + (d : Int))).toNat, by omega⟩
              have hW := HS.out.1.within HL.out hil' (g := h) (by omega) (fun hh => by have e := HZ.out.1; rw [← HP.out, ← e]; omega) (by rw [← HP.out, HZ.out.2.2.1]; omega) (fun hh => by rw [← HP.out, HZ.out.2.2.1]; omega)
              have HW := Lib.hid hW
              clear hW
              by_cases hnx : d + h < size
              · have hW2 : Hid (FitS l size k room (d + h) fr (i + 1)) := Lib.hid (by have := HW.out; rw [if_pos hnx] at this; exact this)
                clear HW
                go_wp2
                all_goals refine ⟨⟨d + h, fr, i + 1, by go_num, by congr 1; omega, by go_num, by omega, by omega, by omega, Lib.hid ⟨hW2.out, HKw.out⟩⟩, by simp [intOf]; omega⟩
              · have hW2 : Hid (FitS l size k room (d + h) fr i) := Lib.hid (by have := HW.out; rw [if_neg hnx] at this; exact this)
                clear HW
                go_wp2
                all_goals refine ⟨⟨d + h, fr, i + 1, by go_num, by congr 1; omega, by go_num, by omega, by omega, by omega, Lib.hid ⟨hW2.out.more (by omega), HKw.out⟩⟩, by simp [intOf]; omega⟩
        · obtain ⟨hA, hB⟩ := h3
          go_upto_region 7 with fail
          go_region_held3 (fun W => Kept NoB w W) (first | assumption | exact Kept.drew (by assumption) | exact Kept.trans (by assumption) hkn) ((go_at_call 47; ((with_reducible refine (HE.out _).mono ?_); rintro e wn ⟨rfl, hkn⟩)))
          
          all_goals
            have hkw : Kept NoB w wn := by assumption
            have HKw := Lib.hid hkw
            clear hkw hkn hkr D0 D1 HE
            by_cases hg : 0 < (k + (size : Int)) - (k + (d : Int))
            · obtain ⟨g, hge⟩ : ∃ g : Nat, (k + (size : Int)) = k + (d : Int) + (g : Int) := ⟨((k + (size : Int)) - (k + (d : Int))).toNat, by omega⟩
              have hgd : d + g ≤ size := by omega
              have hG := HS.out.1.gap HL.out (g := g) hgd (fun j hj hij => by
                have e := HZ.out.1; have e2 := HP.out
                rcases Nat.lt_or_ge i j with h | h
                · have := List.pairwise_iff_getElem.1 HL.out.apart i j hil' hj h
                  rw [← e2, HZ.out.2.2.1] at this; omega
                · have : j = i := by omega
                  subst this; rw [← e2, ← e]; omega)
              by_cases hrm : (room : Int) - (fr : Int) < (k + (size : Int)) - (k + (d : Int))
              · have hF2 : F = (d + (room - fr), room) := by rw [HF.out]; exact hG.1 (by omega)
                have HF2 := Lib.hid hF2
                clear hF2 hG
                go_wp2
                go_ret2
                refine ⟨?_, HKw.out⟩
                rw [HF2.out]
                have e : k + (d : Int) - k + (room : Int) - (fr : Int) = ((d + (room - fr) : Nat) : Int) := by omega
                exact congrArg (fun x => Ending.returned (.tuple #[.int .i64 x, .int .i64 (room : Int)])) e
              · have hG2 := hG.2 (by omega)
                obtain ⟨h, hhe⟩ : ∃ h : Nat, (k + (size : Int)) = k + (d : Int) + (g : Int) + (h : Int) := ⟨((k + (size : Int)) - (k + (d : Int) + (g : Int))).toNat, by omega⟩
                have hW := hG2.within HL.out hil' (g := h) (by omega) (fun hh => by have e := HZ.out.1; rw [← HP.out, ← e]; omega) (by rw [← HP.out, HZ.out.2.2.1]; omega) (fun hh => by rw [← HP.out, HZ.out.2.2.1]; omega)
                have HW := Lib.hid hW
                clear hG hG2 hW
                by_cases hnx : d + g + h < size
                · have hW2 : Hid (FitS l size k room (d + g + h) (fr + g) (i + 1)) := Lib.hid (by have := HW.out; rw [if_pos hnx] at this; exact this)
                  clear HW
                  go_wp2
                  all_goals refine ⟨⟨d + g + h, fr + g, i + 1, by go_num, by congr 1; omega, by go_num, by omega, by omega, by omega, Lib.hid ⟨hW2.out, HKw.out⟩⟩, by simp [intOf]; omega⟩
                · have hW2 : Hid (FitS l size k room (d + g + h) (fr + g) i) := Lib.hid (by have := HW.out; rw [if_neg hnx] at this; exact this)
                  clear HW
                  go_wp2
                  all_goals refine ⟨⟨d + g + h, fr + g, i + 1, by go_num, by congr 1; omega, by go_num, by omega, by omega, by omega, Lib.hid ⟨hW2.out.more (by omega), HKw.out⟩⟩, by simp [intOf]; omega⟩
            · obtain ⟨h, hhe⟩ : ∃ h : Nat, (k + (size : Int)) = k + (d : Int) + (h : Int) := ⟨((k + (size : Int)) - (k + (d : Int))).toNat, by omega⟩
              have hW := HS.out.1.within HL.out hil' (g := h) (by omega) (fun hh => by have e := HZ.out.1; rw [← HP.out, ← e]; omega) (by rw [← HP.out, HZ.out.2.2.1]; omega) (fun hh => by rw [← HP.out, HZ.out.2.2.1]; omega)
              have HW := Lib.hid hW
              clear hW
              by_cases hnx : d + h < size
              · have hW2 : Hid (FitS l size k room (d + h) fr (i + 1)) := Lib.hid (by have := HW.out; rw [if_pos hnx] at this; exact this)
                clear HW
                go_wp2
                all_goals refine ⟨⟨d + h, fr, i + 1, by go_num, by congr 1; omega, by go_num, by omega, by omega, by omega, Lib.hid ⟨hW2.out, HKw.out⟩⟩, by simp [intOf]; omega⟩
              · have hW2 : Hid (FitS l size k room (d + h) fr i) := Lib.hid (by have := HW.out; rw [if_neg hnx] at this; exact this)
                clear HW
                go_wp2
                all_goals refine ⟨⟨d + h, fr, i + 1, by go_num, by congr 1; omega, by go_num, by omega, by omega, by omega, Lib.hid ⟨hW2.out.more (by omega), HKw.out⟩⟩, by simp [intOf]; omega⟩
      · have hin2 : n ≤ i := by omega
        obtain ⟨g, hge⟩ : ∃ g : Nat, size = d + g := ⟨size - d, by omega⟩
        have hG := HS.out.1.gap HL.out (g := g) (by omega) (fun j hj hij => by have := HN.out; omega)
        have HKw := Lib.hid HS.out.2
        have hS1 : k + (size : Int) - (k + (d : Int)) = (g : Int) := by omega
        by_cases hrm : (room : Int) - (fr : Int) < k + (size : Int) - (k + (d : Int))
        · have hF2 : F = (d + (room - fr), room) := by rw [HF.out]; exact hG.1 (by omega)
          have HF2 := Lib.hid hF2
          clear hF2 hG hS1
          go_wp2
          go_ret2
          refine ⟨?_, HKw.out⟩
          rw [HF2.out]
          have e : k + (d : Int) - k + (room : Int) - (fr : Int) = ((d + (room - fr) : Nat) : Int) := by omega
          exact congrArg (fun x => Ending.returned (.tuple #[.int .i64 x, .int .i64 (room : Int)])) e
        · have hG2 := Lib.hid (hG.2 (by omega))
          have hg0 : 0 < k + (size : Int) - (k + (d : Int)) := by omega
          clear hG hS1
          go_wp2
          refine ⟨⟨d + g, fr + g, i + 1, by go_num, by congr 1; omega, by go_num, by omega, by omega, by omega, Lib.hid ⟨hG2.out.more (by omega), HKw.out⟩⟩, by simp [intOf]; omega⟩
    · have hds : d = size := by omega
      have hF2 : F = (size, fr) := by rw [HF.out]; exact HS.out.1.ends hds
      have HF2 := Lib.hid hF2
      clear hF2
      go_wp2
      go_ret2
      exact ⟨by rw [HF2.out]; rfl, HS.out.2⟩
end Go.Proofs.YtgbakogihkdddaaGreatDoor

namespace Go.Proofs.YtgbakogihkdddaaGreatDoor
open Go.RowKit
set_option linter.unusedVariables false
set_option linter.unusedSimpArgs false
set_option maxRecDepth 20000

set_option maxHeartbeats 4000000 in
theorem mayBe_3 (v : NodeV) (w : World) (hk : v.kind = 3) : Calls Tryz.prog 26 #[.agg (nvC v).toArray] w fun e w' => e = .returned (.bool (mayB v)) ∧ Kept NoB w w' := by
  obtain ⟨w1, hw1⟩ : ∃ w1, w1 = w.alloc (.cells (nvC v).toArray 27) := ⟨_, rfl⟩
  have hob : w1.heap[w.heap.size]? = some (.cells (nvC v).toArray 27 (0, 0)) := by rw [hw1]; exact heap_alloc_new _ _
  have c0 : w1.cell? ⟨w.heap.size, 0, none⟩ = some (.int .i64 3) := by rw [obj_cell hob, ← hk]; rfl
  have c5 : w1.cell? ⟨w.heap.size, 5, none⟩ = some (.string v.tgt) := by rw [obj_cell hob]; rfl
  have c6 : w1.cell? ⟨w.heap.size, 6, none⟩ = some (.int .i64 v.major) := by rw [obj_cell hob]; rfl
  have c7 : w1.cell? ⟨w.heap.size, 7, none⟩ = some (.int .i64 v.minor) := by rw [obj_cell hob]; rfl
  have d8 : ∀ o, (w1.alloc o).cell? ⟨w.heap.size, 8, none⟩ = some (.int .i64 v.size) := fun o => ((Kept.refl NoB w1).alloc o).cell (by rw [obj_cell hob]; rfl)
  have d9 : ∀ o, (w1.alloc o).cell? ⟨w.heap.size, 9, none⟩ = some (.int .i64 v.links) := fun o => ((Kept.refl NoB w1).alloc o).cell (by rw [obj_cell hob]; rfl)
  have d10 : ∀ o, (w1.alloc o).cell? ⟨w.heap.size, 10, none⟩ = some (.int .i64 v.change) := fun o => ((Kept.refl NoB w1).alloc o).cell (by rw [obj_cell hob]; rfl)
  have HW := Lib.hid hw1; have HO := Lib.hid hob
  have HK : Hid (Kept NoB w w1) := Lib.hid (by rw [hw1]; exact (Kept.refl NoB w).alloc _)
  have HKa : Hid (∀ o, Kept NoB w (w1.alloc o)) := Lib.hid (fun o => HK.out.alloc o)
  have HS := Lib.hid (mayBeSet_any v)
  have HM1 := Lib.hid (within_any v.major 1048575); have HM2 := Lib.hid (within_any v.minor 1048575)
  have HC := Lib.hid (Tryz.strings_Contains_one v.tgt 0)
  have HB : Hid (mayB v = ((!v.tgt.toList.isEmpty && decide (v.tgt.size ≤ 1024) && !decide (0 ≤ Lib.indexByte v.tgt.data.toList 0)) && (decide (v.major = 0) && decide (v.minor = 0)) && setB v && decide (v.size = 0) && decide (v.links = 0) && decide (v.change = 0))) := Lib.hid (by
    unfold mayB setB; rw [hk]; rfl)
  clear hob hw1 hk
  obtain ⟨st, hst⟩ : ∃ st, st = setB v := ⟨_, rfl⟩
  rw [← hst] at HS HB
  clear hst
  obtain ⟨nc, hnc⟩ : ∃ nc, nc = decide (0 ≤ Lib.indexByte v.tgt.data.toList 0) := ⟨_, rfl⟩
  rw [← hnc] at HB HC
  clear hnc
  go_enter Tryz.func26, Tryz.ntmps26
  go_upto_region 1 with fail
  rw [← HW.out]
  rcases Classical.em (v.tgt.toList ≠ []) with t1 | t1
  rotate_left
  · have t3 : v.tgt.toList = [] := Classical.not_not.1 t1
    have t2 : v.tgt.toList.isEmpty = true := by simpa using t3
    have HF : Hid (mayB v = false) := Lib.hid (by rw [HB.out]; rw [t2]; simp)
    clear HB
    go_wp2_with (first | (refine load_rowN (by rfl) (.tmp 1) rfl w.heap.size rfl v HO.out ?_) | (go_at_call 45; refine (HS.out _).mono ?_; rintro e w2 ⟨rfl, rfl⟩) | (go_at_call 44; first | (with_reducible refine (HM1.out _).mono ?_; rintro e w2 ⟨rfl, rfl⟩) | (with_reducible refine (HM2.out _).mono ?_; rintro e w2 ⟨rfl, rfl⟩)) | (go_at_call 43; refine (HC.out _).mono ?_; rintro e w2 ⟨rfl, rfl⟩) | fail)
    all_goals go_ret
    all_goals exact ⟨by rw [HF.out]; rfl, by first | exact HK.out | exact HKa.out _⟩
  have t2 : v.tgt.toList.isEmpty = false := by simpa using t1
  rcases Classical.em ((v.tgt.size : Int) ≤ 1024) with t4 | t4
  rotate_left
  · have HT5 : Hid (decide (v.tgt.size ≤ 1024) = false) := Lib.hid (decide_eq_false (by omega))
    have HF : Hid (mayB v = false) := Lib.hid (by rw [HB.out]; rw [t2]; rw [HT5.out]; simp)
    clear HB
    go_wp2_with (first | (refine load_rowN (by rfl) (.tmp 1) rfl w.heap.size rfl v HO.out ?_) | (go_at_call 45; refine (HS.out _).mono ?_; rintro e w2 ⟨rfl, rfl⟩) | (go_at_call 44; first | (with_reducible refine (HM1.out _).mono ?_; rintro e w2 ⟨rfl, rfl⟩) | (with_reducible refine (HM2.out _).mono ?_; rintro e w2 ⟨rfl, rfl⟩)) | (go_at_call 43; refine (HC.out _).mono ?_; rintro e w2 ⟨rfl, rfl⟩) | fail)
    all_goals go_ret
    all_goals exact ⟨by rw [HF.out]; rfl, by first | exact HK.out | exact HKa.out _⟩
  have HT5 : Hid (decide (v.tgt.size ≤ 1024) = true) := Lib.hid (decide_eq_true (by omega))
  cases nc
  rotate_left
  · have _u := 0
    have HF : Hid (mayB v = false) := Lib.hid (by rw [HB.out]; rw [t2]; rw [HT5.out]; simp)
    clear HB
    go_wp2_with (first | (refine load_rowN (by rfl) (.tmp 1) rfl w.heap.size rfl v HO.out ?_) | (go_at_call 45; refine (HS.out _).mono ?_; rintro e w2 ⟨rfl, rfl⟩) | (go_at_call 44; first | (with_reducible refine (HM1.out _).mono ?_; rintro e w2 ⟨rfl, rfl⟩) | (with_reducible refine (HM2.out _).mono ?_; rintro e w2 ⟨rfl, rfl⟩)) | (go_at_call 43; refine (HC.out _).mono ?_; rintro e w2 ⟨rfl, rfl⟩) | fail)
    all_goals go_ret
    all_goals exact ⟨by rw [HF.out]; rfl, by first | exact HK.out | exact HKa.out _⟩
  rcases Classical.em (v.major = 0) with j1 | j1
  rotate_left
  · have j2 : (v.major == 0) = false := by simpa using j1
    have HJ : Hid (decide (v.major = 0) = false) := Lib.hid (decide_eq_false j1)
    have HF : Hid (mayB v = false) := Lib.hid (by rw [HB.out]; rw [t2]; rw [HT5.out]; rw [HJ.out]; simp)
    clear HB
    go_wp2_with (first | (refine load_rowN (by rfl) (.tmp 1) rfl w.heap.size rfl v HO.out ?_) | (go_at_call 45; refine (HS.out _).mono ?_; rintro e w2 ⟨rfl, rfl⟩) | (go_at_call 44; first | (with_reducible refine (HM1.out _).mono ?_; rintro e w2 ⟨rfl, rfl⟩) | (with_reducible refine (HM2.out _).mono ?_; rintro e w2 ⟨rfl, rfl⟩)) | (go_at_call 43; refine (HC.out _).mono ?_; rintro e w2 ⟨rfl, rfl⟩) | fail)
    all_goals go_ret
    all_goals exact ⟨by rw [HF.out]; rfl, by first | exact HK.out | exact HKa.out _⟩
  have HJ : Hid (decide (v.major = 0) = true) := Lib.hid (decide_eq_true j1)
  rw [j1] at c6
  have HJ1 := Lib.hid j1
  clear j1
  rcases Classical.em (v.minor = 0) with n1 | n1
  rotate_left
  · have n2 : (v.minor == 0) = false := by simpa using n1
    have HN : Hid (decide (v.minor = 0) = false) := Lib.hid (decide_eq_false n1)
    have HF : Hid (mayB v = false) := Lib.hid (by rw [HB.out]; rw [t2]; rw [HT5.out]; rw [HJ.out]; rw [HN.out]; simp)
    clear HB
    go_wp2_with (first | (refine load_rowN (by rfl) (.tmp 1) rfl w.heap.size rfl v HO.out ?_) | (go_at_call 45; refine (HS.out _).mono ?_; rintro e w2 ⟨rfl, rfl⟩) | (go_at_call 44; first | (with_reducible refine (HM1.out _).mono ?_; rintro e w2 ⟨rfl, rfl⟩) | (with_reducible refine (HM2.out _).mono ?_; rintro e w2 ⟨rfl, rfl⟩)) | (go_at_call 43; refine (HC.out _).mono ?_; rintro e w2 ⟨rfl, rfl⟩) | fail)
    all_goals go_ret
    all_goals exact ⟨by rw [HF.out]; rfl, by first | exact HK.out | exact HKa.out _⟩
  have HN : Hid (decide (v.minor = 0) = true) := Lib.hid (decide_eq_true n1)
  rw [n1] at c7
  have HN1 := Lib.hid n1
  clear n1
  cases st
  · have _u := 0
    have HF : Hid (mayB v = false) := Lib.hid (by rw [HB.out]; rw [t2]; rw [HT5.out]; rw [HJ.out]; rw [HN.out]; simp)
    clear HB
    go_wp2_with (first | (refine load_rowN (by rfl) (.tmp 1) rfl w.heap.size rfl v HO.out ?_) | (go_at_call 45; refine (HS.out _).mono ?_; rintro e w2 ⟨rfl, rfl⟩) | (go_at_call 44; first | (with_reducible refine (HM1.out _).mono ?_; rintro e w2 ⟨rfl, rfl⟩) | (with_reducible refine (HM2.out _).mono ?_; rintro e w2 ⟨rfl, rfl⟩)) | (go_at_call 43; refine (HC.out _).mono ?_; rintro e w2 ⟨rfl, rfl⟩) | fail)
    all_goals go_ret
    all_goals exact ⟨by rw [HF.out]; rfl, by first | exact HK.out | exact HKa.out _⟩
  rcases Classical.em (v.size = 0) with s1 | s1
  rotate_left
  · have s2 : (v.size == 0) = false := by simpa using s1
    have Hs3 : Hid (decide (v.size = 0) = false) := Lib.hid (decide_eq_false s1)
    have HF : Hid (mayB v = false) := Lib.hid (by rw [HB.out]; rw [t2]; rw [HT5.out]; rw [HJ.out]; rw [HN.out]; rw [Hs3.out]; simp)
    clear HB
    go_wp2_with (first | (refine load_rowN (by rfl) (.tmp 1) rfl w.heap.size rfl v HO.out ?_) | (go_at_call 45; refine (HS.out _).mono ?_; rintro e w2 ⟨rfl, rfl⟩) | (go_at_call 44; first | (with_reducible refine (HM1.out _).mono ?_; rintro e w2 ⟨rfl, rfl⟩) | (with_reducible refine (HM2.out _).mono ?_; rintro e w2 ⟨rfl, rfl⟩)) | (go_at_call 43; refine (HC.out _).mono ?_; rintro e w2 ⟨rfl, rfl⟩) | fail)
    all_goals go_ret
    all_goals exact ⟨by rw [HF.out]; rfl, by first | exact HK.out | exact HKa.out _⟩
  have Hs3 : Hid (decide (v.size = 0) = true) := Lib.hid (decide_eq_true s1)
  rw [s1] at d8
  have Hs4 := Lib.hid s1
  clear s1
  rcases Classical.em (v.links = 0) with l1 | l1
  rotate_left
  · have l2 : (v.links == 0) = false := by simpa using l1
    have Hl3 : Hid (decide (v.links = 0) = false) := Lib.hid (decide_eq_false l1)
    have HF : Hid (mayB v = false) := Lib.hid (by rw [HB.out]; rw [t2]; rw [HT5.out]; rw [HJ.out]; rw [HN.out]; rw [Hs3.out]; rw [Hl3.out]; simp)
    clear HB
    go_wp2_with (first | (refine load_rowN (by rfl) (.tmp 1) rfl w.heap.size rfl v HO.out ?_) | (go_at_call 45; refine (HS.out _).mono ?_; rintro e w2 ⟨rfl, rfl⟩) | (go_at_call 44; first | (with_reducible refine (HM1.out _).mono ?_; rintro e w2 ⟨rfl, rfl⟩) | (with_reducible refine (HM2.out _).mono ?_; rintro e w2 ⟨rfl, rfl⟩)) | (go_at_call 43; refine (HC.out _).mono ?_; rintro e w2 ⟨rfl, rfl⟩) | fail)
    all_goals go_ret
    all_goals exact ⟨by rw [HF.out]; rfl, by first | exact HK.out | exact HKa.out _⟩
  have Hl3 : Hid (decide (v.links = 0) = true) := Lib.hid (decide_eq_true l1)
  rw [l1] at d9
  have Hl4 := Lib.hid l1
  clear l1
  rcases Classical.em (v.change = 0) with h1 | h1
  rotate_left
  · have h2 : (v.change == 0) = false := by simpa using h1
    have Hh3 : Hid (decide (v.change = 0) = false) := Lib.hid (decide_eq_false h1)
    have HF : Hid (mayB v = false) := Lib.hid (by rw [HB.out]; rw [t2]; rw [HT5.out]; rw [HJ.out]; rw [HN.out]; rw [Hs3.out]; rw [Hl3.out]; rw [Hh3.out]; simp)
    clear HB
    go_wp2_with (first | (refine load_rowN (by rfl) (.tmp 1) rfl w.heap.size rfl v HO.out ?_) | (go_at_call 45; refine (HS.out _).mono ?_; rintro e w2 ⟨rfl, rfl⟩) | (go_at_call 44; first | (with_reducible refine (HM1.out _).mono ?_; rintro e w2 ⟨rfl, rfl⟩) | (with_reducible refine (HM2.out _).mono ?_; rintro e w2 ⟨rfl, rfl⟩)) | (go_at_call 43; refine (HC.out _).mono ?_; rintro e w2 ⟨rfl, rfl⟩) | fail)
    all_goals go_ret
    all_goals exact ⟨by rw [HF.out]; rfl, by first | exact HK.out | exact HKa.out _⟩
  have Hh3 : Hid (decide (v.change = 0) = true) := Lib.hid (decide_eq_true h1)
  rw [h1] at d10
  have Hh4 := Lib.hid h1
  clear h1
  have HF : Hid (mayB v = true) := Lib.hid (by rw [HB.out]; rw [t2]; rw [HT5.out]; rw [HJ.out]; rw [HN.out]; rw [Hs3.out]; rw [Hl3.out]; rw [Hh3.out]; simp)
  clear HB
  go_wp2_with (first | (refine load_rowN (by rfl) (.tmp 1) rfl w.heap.size rfl v HO.out ?_) | (go_at_call 45; refine (HS.out _).mono ?_; rintro e w2 ⟨rfl, rfl⟩) | (go_at_call 44; first | (with_reducible refine (HM1.out _).mono ?_; rintro e w2 ⟨rfl, rfl⟩) | (with_reducible refine (HM2.out _).mono ?_; rintro e w2 ⟨rfl, rfl⟩)) | (go_at_call 43; refine (HC.out _).mono ?_; rintro e w2 ⟨rfl, rfl⟩) | fail)
  all_goals go_ret
  all_goals exact ⟨by rw [HF.out]; rfl, by first | exact HK.out | exact HKa.out _⟩
set_option maxHeartbeats 4000000 in
theorem mayBe_4 (v : NodeV) (w : World) (hk : v.kind = 4) : Calls Tryz.prog 26 #[.agg (nvC v).toArray] w fun e w' => e = .returned (.bool (mayB v)) ∧ Kept NoB w w' := by
  obtain ⟨w1, hw1⟩ : ∃ w1, w1 = w.alloc (.cells (nvC v).toArray 27) := ⟨_, rfl⟩
  have hob : w1.heap[w.heap.size]? = some (.cells (nvC v).toArray 27 (0, 0)) := by rw [hw1]; exact heap_alloc_new _ _
  have c0 : w1.cell? ⟨w.heap.size, 0, none⟩ = some (.int .i64 4) := by rw [obj_cell hob, ← hk]; rfl
  have c5 : w1.cell? ⟨w.heap.size, 5, none⟩ = some (.string v.tgt) := by rw [obj_cell hob]; rfl
  have c6 : w1.cell? ⟨w.heap.size, 6, none⟩ = some (.int .i64 v.major) := by rw [obj_cell hob]; rfl
  have c7 : w1.cell? ⟨w.heap.size, 7, none⟩ = some (.int .i64 v.minor) := by rw [obj_cell hob]; rfl
  have d8 : ∀ o, (w1.alloc o).cell? ⟨w.heap.size, 8, none⟩ = some (.int .i64 v.size) := fun o => ((Kept.refl NoB w1).alloc o).cell (by rw [obj_cell hob]; rfl)
  have d9 : ∀ o, (w1.alloc o).cell? ⟨w.heap.size, 9, none⟩ = some (.int .i64 v.links) := fun o => ((Kept.refl NoB w1).alloc o).cell (by rw [obj_cell hob]; rfl)
  have d10 : ∀ o, (w1.alloc o).cell? ⟨w.heap.size, 10, none⟩ = some (.int .i64 v.change) := fun o => ((Kept.refl NoB w1).alloc o).cell (by rw [obj_cell hob]; rfl)
  have HW := Lib.hid hw1; have HO := Lib.hid hob
  have HK : Hid (Kept NoB w w1) := Lib.hid (by rw [hw1]; exact (Kept.refl NoB w).alloc _)
  have HKa : Hid (∀ o, Kept NoB w (w1.alloc o)) := Lib.hid (fun o => HK.out.alloc o)
  have HS := Lib.hid (mayBeSet_any v)
  have HM1 := Lib.hid (within_any v.major 1048575); have HM2 := Lib.hid (within_any v.minor 1048575)
  have HC := Lib.hid (Tryz.strings_Contains_one v.tgt 0)
  have HB : Hid (mayB v = (v.tgt.toList.isEmpty && (decide (0 ≤ v.major) && decide (v.major ≤ 1048575) && (decide (0 ≤ v.minor) && decide (v.minor ≤ 1048575))) && setB v && decide (v.size = 0) && decide (v.links = 0) && decide (v.change = 0))) := Lib.hid (by
    unfold mayB setB; rw [hk]; rfl)
  clear hob hw1 hk
  obtain ⟨st, hst⟩ : ∃ st, st = setB v := ⟨_, rfl⟩
  rw [← hst] at HS HB
  clear hst
  obtain ⟨m1, hm1⟩ : ∃ m1, m1 = (decide (0 ≤ v.major) && decide (v.major ≤ 1048575)) := ⟨_, rfl⟩
  obtain ⟨m2, hm2⟩ : ∃ m2, m2 = (decide (0 ≤ v.minor) && decide (v.minor ≤ 1048575)) := ⟨_, rfl⟩
  rw [← hm1] at HB HM1
  rw [← hm2] at HB HM2
  clear hm1 hm2
  go_enter Tryz.func26, Tryz.ntmps26
  go_upto_region 1 with fail
  rw [← HW.out]
  obtain ⟨z, hz⟩ : ∃ z, (v.major == 0) = z := ⟨_, rfl⟩
  cases m1
  · rcases Classical.em (v.tgt.toList = []) with t1 | t1
    · have t2 : v.tgt.toList.isEmpty = true := by simpa using t1
      have HF : Hid (mayB v = false) := Lib.hid (by rw [HB.out]; rw [t2]; simp)
      clear HB
      go_wp2_with (first | (refine load_rowN (by rfl) (.tmp 1) rfl w.heap.size rfl v HO.out ?_) | (go_at_call 45; refine (HS.out _).mono ?_; rintro e w2 ⟨rfl, rfl⟩) | (go_at_call 44; first | (with_reducible refine (HM1.out _).mono ?_; rintro e w2 ⟨rfl, rfl⟩) | (with_reducible refine (HM2.out _).mono ?_; rintro e w2 ⟨rfl, rfl⟩)) | (go_at_call 43; refine (HC.out _).mono ?_; rintro e w2 ⟨rfl, rfl⟩) | fail)
      all_goals go_ret
      all_goals exact ⟨by rw [HF.out]; rfl, by first | exact HK.out | exact HKa.out _⟩
    · have t2 : v.tgt.toList.isEmpty = false := by simpa using t1
      have HF : Hid (mayB v = false) := Lib.hid (by rw [HB.out]; rw [t2]; simp)
      clear HB
      go_wp2_with (first | (refine load_rowN (by rfl) (.tmp 1) rfl w.heap.size rfl v HO.out ?_) | (go_at_call 45; refine (HS.out _).mono ?_; rintro e w2 ⟨rfl, rfl⟩) | (go_at_call 44; first | (with_reducible refine (HM1.out _).mono ?_; rintro e w2 ⟨rfl, rfl⟩) | (with_reducible refine (HM2.out _).mono ?_; rintro e w2 ⟨rfl, rfl⟩)) | (go_at_call 43; refine (HC.out _).mono ?_; rintro e w2 ⟨rfl, rfl⟩) | fail)
      all_goals go_ret
      all_goals exact ⟨by rw [HF.out]; rfl, by first | exact HK.out | exact HKa.out _⟩
  cases m2
  · rcases Classical.em (v.tgt.toList = []) with t1 | t1
    · have t2 : v.tgt.toList.isEmpty = true := by simpa using t1
      have HF : Hid (mayB v = false) := Lib.hid (by rw [HB.out]; rw [t2]; simp)
      clear HB
      go_wp2_with (first | (refine load_rowN (by rfl) (.tmp 1) rfl w.heap.size rfl v HO.out ?_) | (go_at_call 45; refine (HS.out _).mono ?_; rintro e w2 ⟨rfl, rfl⟩) | (go_at_call 44; first | (with_reducible refine (HM1.out _).mono ?_; rintro e w2 ⟨rfl, rfl⟩) | (with_reducible refine (HM2.out _).mono ?_; rintro e w2 ⟨rfl, rfl⟩)) | (go_at_call 43; refine (HC.out _).mono ?_; rintro e w2 ⟨rfl, rfl⟩) | fail)
      all_goals go_ret
      all_goals exact ⟨by rw [HF.out]; rfl, by first | exact HK.out | exact HKa.out _⟩
    · have t2 : v.tgt.toList.isEmpty = false := by simpa using t1
      have HF : Hid (mayB v = false) := Lib.hid (by rw [HB.out]; rw [t2]; simp)
      clear HB
      go_wp2_with (first | (refine load_rowN (by rfl) (.tmp 1) rfl w.heap.size rfl v HO.out ?_) | (go_at_call 45; refine (HS.out _).mono ?_; rintro e w2 ⟨rfl, rfl⟩) | (go_at_call 44; first | (with_reducible refine (HM1.out _).mono ?_; rintro e w2 ⟨rfl, rfl⟩) | (with_reducible refine (HM2.out _).mono ?_; rintro e w2 ⟨rfl, rfl⟩)) | (go_at_call 43; refine (HC.out _).mono ?_; rintro e w2 ⟨rfl, rfl⟩) | fail)
      all_goals go_ret
      all_goals exact ⟨by rw [HF.out]; rfl, by first | exact HK.out | exact HKa.out _⟩
  rcases Classical.em (v.tgt.toList = []) with t1 | t1
  rotate_left
  · have t2 : v.tgt.toList.isEmpty = false := by simpa using t1
    have HF : Hid (mayB v = false) := Lib.hid (by rw [HB.out]; rw [t2]; simp)
    clear HB
    go_wp2_with (first | (refine load_rowN (by rfl) (.tmp 1) rfl w.heap.size rfl v HO.out ?_) | (go_at_call 45; refine (HS.out _).mono ?_; rintro e w2 ⟨rfl, rfl⟩) | (go_at_call 44; first | (with_reducible refine (HM1.out _).mono ?_; rintro e w2 ⟨rfl, rfl⟩) | (with_reducible refine (HM2.out _).mono ?_; rintro e w2 ⟨rfl, rfl⟩)) | (go_at_call 43; refine (HC.out _).mono ?_; rintro e w2 ⟨rfl, rfl⟩) | fail)
    all_goals go_ret
    all_goals exact ⟨by rw [HF.out]; rfl, by first | exact HK.out | exact HKa.out _⟩
  have t2 : v.tgt.toList.isEmpty = true := by simpa using t1
  cases st
  · have _u := 0
    have HF : Hid (mayB v = false) := Lib.hid (by rw [HB.out]; rw [t2]; simp)
    clear HB
    go_wp2_with (first | (refine load_rowN (by rfl) (.tmp 1) rfl w.heap.size rfl v HO.out ?_) | (go_at_call 45; refine (HS.out _).mono ?_; rintro e w2 ⟨rfl, rfl⟩) | (go_at_call 44; first | (with_reducible refine (HM1.out _).mono ?_; rintro e w2 ⟨rfl, rfl⟩) | (with_reducible refine (HM2.out _).mono ?_; rintro e w2 ⟨rfl, rfl⟩)) | (go_at_call 43; refine (HC.out _).mono ?_; rintro e w2 ⟨rfl, rfl⟩) | fail)
    all_goals go_ret
    all_goals exact ⟨by rw [HF.out]; rfl, by first | exact HK.out | exact HKa.out _⟩
  rcases Classical.em (v.size = 0) with s1 | s1
  rotate_left
  · have s2 : (v.size == 0) = false := by simpa using s1
    have Hs3 : Hid (decide (v.size = 0) = false) := Lib.hid (decide_eq_false s1)
    have HF : Hid (mayB v = false) := Lib.hid (by rw [HB.out]; rw [t2]; rw [Hs3.out]; simp)
    clear HB
    go_wp2_with (first | (refine load_rowN (by rfl) (.tmp 1) rfl w.heap.size rfl v HO.out ?_) | (go_at_call 45; refine (HS.out _).mono ?_; rintro e w2 ⟨rfl, rfl⟩) | (go_at_call 44; first | (with_reducible refine (HM1.out _).mono ?_; rintro e w2 ⟨rfl, rfl⟩) | (with_reducible refine (HM2.out _).mono ?_; rintro e w2 ⟨rfl, rfl⟩)) | (go_at_call 43; refine (HC.out _).mono ?_; rintro e w2 ⟨rfl, rfl⟩) | fail)
    all_goals go_ret
    all_goals exact ⟨by rw [HF.out]; rfl, by first | exact HK.out | exact HKa.out _⟩
  have Hs3 : Hid (decide (v.size = 0) = true) := Lib.hid (decide_eq_true s1)
  rw [s1] at d8
  have Hs4 := Lib.hid s1
  clear s1
  rcases Classical.em (v.links = 0) with l1 | l1
  rotate_left
  · have l2 : (v.links == 0) = false := by simpa using l1
    have Hl3 : Hid (decide (v.links = 0) = false) := Lib.hid (decide_eq_false l1)
    have HF : Hid (mayB v = false) := Lib.hid (by rw [HB.out]; rw [t2]; rw [Hs3.out]; rw [Hl3.out]; simp)
    clear HB
    go_wp2_with (first | (refine load_rowN (by rfl) (.tmp 1) rfl w.heap.size rfl v HO.out ?_) | (go_at_call 45; refine (HS.out _).mono ?_; rintro e w2 ⟨rfl, rfl⟩) | (go_at_call 44; first | (with_reducible refine (HM1.out _).mono ?_; rintro e w2 ⟨rfl, rfl⟩) | (with_reducible refine (HM2.out _).mono ?_; rintro e w2 ⟨rfl, rfl⟩)) | (go_at_call 43; refine (HC.out _).mono ?_; rintro e w2 ⟨rfl, rfl⟩) | fail)
    all_goals go_ret
    all_goals exact ⟨by rw [HF.out]; rfl, by first | exact HK.out | exact HKa.out _⟩
  have Hl3 : Hid (decide (v.links = 0) = true) := Lib.hid (decide_eq_true l1)
  rw [l1] at d9
  have Hl4 := Lib.hid l1
  clear l1
  rcases Classical.em (v.change = 0) with h1 | h1
  rotate_left
  · have h2 : (v.change == 0) = false := by simpa using h1
    have Hh3 : Hid (decide (v.change = 0) = false) := Lib.hid (decide_eq_false h1)
    have HF : Hid (mayB v = false) := Lib.hid (by rw [HB.out]; rw [t2]; rw [Hs3.out]; rw [Hl3.out]; rw [Hh3.out]; simp)
    clear HB
    go_wp2_with (first | (refine load_rowN (by rfl) (.tmp 1) rfl w.heap.size rfl v HO.out ?_) | (go_at_call 45; refine (HS.out _).mono ?_; rintro e w2 ⟨rfl, rfl⟩) | (go_at_call 44; first | (with_reducible refine (HM1.out _).mono ?_; rintro e w2 ⟨rfl, rfl⟩) | (with_reducible refine (HM2.out _).mono ?_; rintro e w2 ⟨rfl, rfl⟩)) | (go_at_call 43; refine (HC.out _).mono ?_; rintro e w2 ⟨rfl, rfl⟩) | fail)
    all_goals go_ret
    all_goals exact ⟨by rw [HF.out]; rfl, by first | exact HK.out | exact HKa.out _⟩
  have Hh3 : Hid (decide (v.change = 0) = true) := Lib.hid (decide_eq_true h1)
  rw [h1] at d10
  have Hh4 := Lib.hid h1
  clear h1
  have HF : Hid (mayB v = true) := Lib.hid (by rw [HB.out]; rw [t2]; rw [Hs3.out]; rw [Hl3.out]; rw [Hh3.out]; simp)
  clear HB
  go_wp2_with (first | (refine load_rowN (by rfl) (.tmp 1) rfl w.heap.size rfl v HO.out ?_) | (go_at_call 45; refine (HS.out _).mono ?_; rintro e w2 ⟨rfl, rfl⟩) | (go_at_call 44; first | (with_reducible refine (HM1.out _).mono ?_; rintro e w2 ⟨rfl, rfl⟩) | (with_reducible refine (HM2.out _).mono ?_; rintro e w2 ⟨rfl, rfl⟩)) | (go_at_call 43; refine (HC.out _).mono ?_; rintro e w2 ⟨rfl, rfl⟩) | fail)
  all_goals go_ret
  all_goals exact ⟨by rw [HF.out]; rfl, by first | exact HK.out | exact HKa.out _⟩
set_option maxHeartbeats 4000000 in
theorem mayBe_5 (v : NodeV) (w : World) (hk : v.kind = 5) : Calls Tryz.prog 26 #[.agg (nvC v).toArray] w fun e w' => e = .returned (.bool (mayB v)) ∧ Kept NoB w w' := by
  obtain ⟨w1, hw1⟩ : ∃ w1, w1 = w.alloc (.cells (nvC v).toArray 27) := ⟨_, rfl⟩
  have hob : w1.heap[w.heap.size]? = some (.cells (nvC v).toArray 27 (0, 0)) := by rw [hw1]; exact heap_alloc_new _ _
  have c0 : w1.cell? ⟨w.heap.size, 0, none⟩ = some (.int .i64 5) := by rw [obj_cell hob, ← hk]; rfl
  have c5 : w1.cell? ⟨w.heap.size, 5, none⟩ = some (.string v.tgt) := by rw [obj_cell hob]; rfl
  have c6 : w1.cell? ⟨w.heap.size, 6, none⟩ = some (.int .i64 v.major) := by rw [obj_cell hob]; rfl
  have c7 : w1.cell? ⟨w.heap.size, 7, none⟩ = some (.int .i64 v.minor) := by rw [obj_cell hob]; rfl
  have d8 : ∀ o, (w1.alloc o).cell? ⟨w.heap.size, 8, none⟩ = some (.int .i64 v.size) := fun o => ((Kept.refl NoB w1).alloc o).cell (by rw [obj_cell hob]; rfl)
  have d9 : ∀ o, (w1.alloc o).cell? ⟨w.heap.size, 9, none⟩ = some (.int .i64 v.links) := fun o => ((Kept.refl NoB w1).alloc o).cell (by rw [obj_cell hob]; rfl)
  have d10 : ∀ o, (w1.alloc o).cell? ⟨w.heap.size, 10, none⟩ = some (.int .i64 v.change) := fun o => ((Kept.refl NoB w1).alloc o).cell (by rw [obj_cell hob]; rfl)
  have HW := Lib.hid hw1; have HO := Lib.hid hob
  have HK : Hid (Kept NoB w w1) := Lib.hid (by rw [hw1]; exact (Kept.refl NoB w).alloc _)
  have HKa : Hid (∀ o, Kept NoB w (w1.alloc o)) := Lib.hid (fun o => HK.out.alloc o)
  have HS := Lib.hid (mayBeSet_any v)
  have HM1 := Lib.hid (within_any v.major 1048575); have HM2 := Lib.hid (within_any v.minor 1048575)
  have HC := Lib.hid (Tryz.strings_Contains_one v.tgt 0)
  have HB : Hid (mayB v = (v.tgt.toList.isEmpty && (decide (0 ≤ v.major) && decide (v.major ≤ 1048575) && (decide (0 ≤ v.minor) && decide (v.minor ≤ 1048575))) && setB v && decide (v.size = 0) && decide (v.links = 0) && decide (v.change = 0))) := Lib.hid (by
    unfold mayB setB; rw [hk]; rfl)
  clear hob hw1 hk
  obtain ⟨st, hst⟩ : ∃ st, st = setB v := ⟨_, rfl⟩
  rw [← hst] at HS HB
  clear hst
  obtain ⟨m1, hm1⟩ : ∃ m1, m1 = (decide (0 ≤ v.major) && decide (v.major ≤ 1048575)) := ⟨_, rfl⟩
  obtain ⟨m2, hm2⟩ : ∃ m2, m2 = (decide (0 ≤ v.minor) && decide (v.minor ≤ 1048575)) := ⟨_, rfl⟩
  rw [← hm1] at HB HM1
  rw [← hm2] at HB HM2
  clear hm1 hm2
  go_enter Tryz.func26, Tryz.ntmps26
  go_upto_region 1 with fail
  rw [← HW.out]
  obtain ⟨z, hz⟩ : ∃ z, (v.major == 0) = z := ⟨_, rfl⟩
  cases m1
  · rcases Classical.em (v.tgt.toList = []) with t1 | t1
    · have t2 : v.tgt.toList.isEmpty = true := by simpa using t1
      have HF : Hid (mayB v = false) := Lib.hid (by rw [HB.out]; rw [t2]; simp)
      clear HB
      go_wp2_with (first | (refine load_rowN (by rfl) (.tmp 1) rfl w.heap.size rfl v HO.out ?_) | (go_at_call 45; refine (HS.out _).mono ?_; rintro e w2 ⟨rfl, rfl⟩) | (go_at_call 44; first | (with_reducible refine (HM1.out _).mono ?_; rintro e w2 ⟨rfl, rfl⟩) | (with_reducible refine (HM2.out _).mono ?_; rintro e w2 ⟨rfl, rfl⟩)) | (go_at_call 43; refine (HC.out _).mono ?_; rintro e w2 ⟨rfl, rfl⟩) | fail)
      all_goals go_ret
      all_goals exact ⟨by rw [HF.out]; rfl, by first | exact HK.out | exact HKa.out _⟩
    · have t2 : v.tgt.toList.isEmpty = false := by simpa using t1
      have HF : Hid (mayB v = false) := Lib.hid (by rw [HB.out]; rw [t2]; simp)
      clear HB
      go_wp2_with (first | (refine load_rowN (by rfl) (.tmp 1) rfl w.heap.size rfl v HO.out ?_) | (go_at_call 45; refine (HS.out _).mono ?_; rintro e w2 ⟨rfl, rfl⟩) | (go_at_call 44; first | (with_reducible refine (HM1.out _).mono ?_; rintro e w2 ⟨rfl, rfl⟩) | (with_reducible refine (HM2.out _).mono ?_; rintro e w2 ⟨rfl, rfl⟩)) | (go_at_call 43; refine (HC.out _).mono ?_; rintro e w2 ⟨rfl, rfl⟩) | fail)
      all_goals go_ret
      all_goals exact ⟨by rw [HF.out]; rfl, by first | exact HK.out | exact HKa.out _⟩
  cases m2
  · rcases Classical.em (v.tgt.toList = []) with t1 | t1
    · have t2 : v.tgt.toList.isEmpty = true := by simpa using t1
      have HF : Hid (mayB v = false) := Lib.hid (by rw [HB.out]; rw [t2]; simp)
      clear HB
      go_wp2_with (first | (refine load_rowN (by rfl) (.tmp 1) rfl w.heap.size rfl v HO.out ?_) | (go_at_call 45; refine (HS.out _).mono ?_; rintro e w2 ⟨rfl, rfl⟩) | (go_at_call 44; first | (with_reducible refine (HM1.out _).mono ?_; rintro e w2 ⟨rfl, rfl⟩) | (with_reducible refine (HM2.out _).mono ?_; rintro e w2 ⟨rfl, rfl⟩)) | (go_at_call 43; refine (HC.out _).mono ?_; rintro e w2 ⟨rfl, rfl⟩) | fail)
      all_goals go_ret
      all_goals exact ⟨by rw [HF.out]; rfl, by first | exact HK.out | exact HKa.out _⟩
    · have t2 : v.tgt.toList.isEmpty = false := by simpa using t1
      have HF : Hid (mayB v = false) := Lib.hid (by rw [HB.out]; rw [t2]; simp)
      clear HB
      go_wp2_with (first | (refine load_rowN (by rfl) (.tmp 1) rfl w.heap.size rfl v HO.out ?_) | (go_at_call 45; refine (HS.out _).mono ?_; rintro e w2 ⟨rfl, rfl⟩) | (go_at_call 44; first | (with_reducible refine (HM1.out _).mono ?_; rintro e w2 ⟨rfl, rfl⟩) | (with_reducible refine (HM2.out _).mono ?_; rintro e w2 ⟨rfl, rfl⟩)) | (go_at_call 43; refine (HC.out _).mono ?_; rintro e w2 ⟨rfl, rfl⟩) | fail)
      all_goals go_ret
      all_goals exact ⟨by rw [HF.out]; rfl, by first | exact HK.out | exact HKa.out _⟩
  rcases Classical.em (v.tgt.toList = []) with t1 | t1
  rotate_left
  · have t2 : v.tgt.toList.isEmpty = false := by simpa using t1
    have HF : Hid (mayB v = false) := Lib.hid (by rw [HB.out]; rw [t2]; simp)
    clear HB
    go_wp2_with (first | (refine load_rowN (by rfl) (.tmp 1) rfl w.heap.size rfl v HO.out ?_) | (go_at_call 45; refine (HS.out _).mono ?_; rintro e w2 ⟨rfl, rfl⟩) | (go_at_call 44; first | (with_reducible refine (HM1.out _).mono ?_; rintro e w2 ⟨rfl, rfl⟩) | (with_reducible refine (HM2.out _).mono ?_; rintro e w2 ⟨rfl, rfl⟩)) | (go_at_call 43; refine (HC.out _).mono ?_; rintro e w2 ⟨rfl, rfl⟩) | fail)
    all_goals go_ret
    all_goals exact ⟨by rw [HF.out]; rfl, by first | exact HK.out | exact HKa.out _⟩
  have t2 : v.tgt.toList.isEmpty = true := by simpa using t1
  cases st
  · have _u := 0
    have HF : Hid (mayB v = false) := Lib.hid (by rw [HB.out]; rw [t2]; simp)
    clear HB
    go_wp2_with (first | (refine load_rowN (by rfl) (.tmp 1) rfl w.heap.size rfl v HO.out ?_) | (go_at_call 45; refine (HS.out _).mono ?_; rintro e w2 ⟨rfl, rfl⟩) | (go_at_call 44; first | (with_reducible refine (HM1.out _).mono ?_; rintro e w2 ⟨rfl, rfl⟩) | (with_reducible refine (HM2.out _).mono ?_; rintro e w2 ⟨rfl, rfl⟩)) | (go_at_call 43; refine (HC.out _).mono ?_; rintro e w2 ⟨rfl, rfl⟩) | fail)
    all_goals go_ret
    all_goals exact ⟨by rw [HF.out]; rfl, by first | exact HK.out | exact HKa.out _⟩
  rcases Classical.em (v.size = 0) with s1 | s1
  rotate_left
  · have s2 : (v.size == 0) = false := by simpa using s1
    have Hs3 : Hid (decide (v.size = 0) = false) := Lib.hid (decide_eq_false s1)
    have HF : Hid (mayB v = false) := Lib.hid (by rw [HB.out]; rw [t2]; rw [Hs3.out]; simp)
    clear HB
    go_wp2_with (first | (refine load_rowN (by rfl) (.tmp 1) rfl w.heap.size rfl v HO.out ?_) | (go_at_call 45; refine (HS.out _).mono ?_; rintro e w2 ⟨rfl, rfl⟩) | (go_at_call 44; first | (with_reducible refine (HM1.out _).mono ?_; rintro e w2 ⟨rfl, rfl⟩) | (with_reducible refine (HM2.out _).mono ?_; rintro e w2 ⟨rfl, rfl⟩)) | (go_at_call 43; refine (HC.out _).mono ?_; rintro e w2 ⟨rfl, rfl⟩) | fail)
    all_goals go_ret
    all_goals exact ⟨by rw [HF.out]; rfl, by first | exact HK.out | exact HKa.out _⟩
  have Hs3 : Hid (decide (v.size = 0) = true) := Lib.hid (decide_eq_true s1)
  rw [s1] at d8
  have Hs4 := Lib.hid s1
  clear s1
  rcases Classical.em (v.links = 0) with l1 | l1
  rotate_left
  · have l2 : (v.links == 0) = false := by simpa using l1
    have Hl3 : Hid (decide (v.links = 0) = false) := Lib.hid (decide_eq_false l1)
    have HF : Hid (mayB v = false) := Lib.hid (by rw [HB.out]; rw [t2]; rw [Hs3.out]; rw [Hl3.out]; simp)
    clear HB
    go_wp2_with (first | (refine load_rowN (by rfl) (.tmp 1) rfl w.heap.size rfl v HO.out ?_) | (go_at_call 45; refine (HS.out _).mono ?_; rintro e w2 ⟨rfl, rfl⟩) | (go_at_call 44; first | (with_reducible refine (HM1.out _).mono ?_; rintro e w2 ⟨rfl, rfl⟩) | (with_reducible refine (HM2.out _).mono ?_; rintro e w2 ⟨rfl, rfl⟩)) | (go_at_call 43; refine (HC.out _).mono ?_; rintro e w2 ⟨rfl, rfl⟩) | fail)
    all_goals go_ret
    all_goals exact ⟨by rw [HF.out]; rfl, by first | exact HK.out | exact HKa.out _⟩
  have Hl3 : Hid (decide (v.links = 0) = true) := Lib.hid (decide_eq_true l1)
  rw [l1] at d9
  have Hl4 := Lib.hid l1
  clear l1
  rcases Classical.em (v.change = 0) with h1 | h1
  rotate_left
  · have h2 : (v.change == 0) = false := by simpa using h1
    have Hh3 : Hid (decide (v.change = 0) = false) := Lib.hid (decide_eq_false h1)
    have HF : Hid (mayB v = false) := Lib.hid (by rw [HB.out]; rw [t2]; rw [Hs3.out]; rw [Hl3.out]; rw [Hh3.out]; simp)
    clear HB
    go_wp2_with (first | (refine load_rowN (by rfl) (.tmp 1) rfl w.heap.size rfl v HO.out ?_) | (go_at_call 45; refine (HS.out _).mono ?_; rintro e w2 ⟨rfl, rfl⟩) | (go_at_call 44; first | (with_reducible refine (HM1.out _).mono ?_; rintro e w2 ⟨rfl, rfl⟩) | (with_reducible refine (HM2.out _).mono ?_; rintro e w2 ⟨rfl, rfl⟩)) | (go_at_call 43; refine (HC.out _).mono ?_; rintro e w2 ⟨rfl, rfl⟩) | fail)
    all_goals go_ret
    all_goals exact ⟨by rw [HF.out]; rfl, by first | exact HK.out | exact HKa.out _⟩
  have Hh3 : Hid (decide (v.change = 0) = true) := Lib.hid (decide_eq_true h1)
  rw [h1] at d10
  have Hh4 := Lib.hid h1
  clear h1
  have HF : Hid (mayB v = true) := Lib.hid (by rw [HB.out]; rw [t2]; rw [Hs3.out]; rw [Hl3.out]; rw [Hh3.out]; simp)
  clear HB
  go_wp2_with (first | (refine load_rowN (by rfl) (.tmp 1) rfl w.heap.size rfl v HO.out ?_) | (go_at_call 45; refine (HS.out _).mono ?_; rintro e w2 ⟨rfl, rfl⟩) | (go_at_call 44; first | (with_reducible refine (HM1.out _).mono ?_; rintro e w2 ⟨rfl, rfl⟩) | (with_reducible refine (HM2.out _).mono ?_; rintro e w2 ⟨rfl, rfl⟩)) | (go_at_call 43; refine (HC.out _).mono ?_; rintro e w2 ⟨rfl, rfl⟩) | fail)
  all_goals go_ret
  all_goals exact ⟨by rw [HF.out]; rfl, by first | exact HK.out | exact HKa.out _⟩
set_option maxHeartbeats 4000000 in
theorem mayBe_no (v : NodeV) (w : World) (hk : ¬ (v.kind = 1 ∨ v.kind = 6 ∨ v.kind = 7 ∨ v.kind = 3 ∨ v.kind = 4 ∨ v.kind = 5)) : Calls Tryz.prog 26 #[.agg (nvC v).toArray] w fun e w' => e = .returned (.bool (mayB v)) ∧ Kept NoB w w' := by
  obtain ⟨w1, hw1⟩ : ∃ w1, w1 = w.alloc (.cells (nvC v).toArray 27) := ⟨_, rfl⟩
  have hob : w1.heap[w.heap.size]? = some (.cells (nvC v).toArray 27 (0, 0)) := by rw [hw1]; exact heap_alloc_new _ _
  have c0 : w1.cell? ⟨w.heap.size, 0, none⟩ = some (.int .i64 v.kind) := by rw [obj_cell hob]; rfl
  have HW := Lib.hid hw1
  have HK : Hid (Kept NoB w w1) := Lib.hid (by rw [hw1]; exact (Kept.refl NoB w).alloc _)
  have k1 : (v.kind == 1) = false := by simp; omega
  have k6 : (v.kind == 6) = false := by simp; omega
  have k7 : (v.kind == 7) = false := by simp; omega
  have k3 : (v.kind == 3) = false := by simp; omega
  have k4 : (v.kind == 4) = false := by simp; omega
  have k5 : (v.kind == 5) = false := by simp; omega
  have HF : Hid (mayB v = false) := Lib.hid (by unfold mayB; rw [k1, k6, k7, k3, k4, k5]; rfl)
  clear hob hw1 hk
  go_enter Tryz.func26, Tryz.ntmps26
  go_upto_region 1 with fail
  rw [← HW.out]
  go_wp2
  go_ret
  exact ⟨by rw [HF.out]; rfl, HK.out⟩
theorem mayBe_any (v : NodeV) (w : World) : Calls Tryz.prog 26 #[.agg (nvC v).toArray] w fun e w' => e = .returned (.bool (mayB v)) ∧ Kept NoB w w' := by
  by_cases hk : v.kind = 1 ∨ v.kind = 6 ∨ v.kind = 7 ∨ v.kind = 3 ∨ v.kind = 4 ∨ v.kind = 5
  · rcases hk with hk | hk | hk | hk | hk | hk
    · exact mayBe_1 v w hk
    · exact mayBe_6 v w hk
    · exact mayBe_7 v w hk
    · exact mayBe_3 v w hk
    · exact mayBe_4 v w hk
    · exact mayBe_5 v w hk
  · exact mayBe_no v w hk
end Go.Proofs.YtgbakogihkdddaaGreatDoor
