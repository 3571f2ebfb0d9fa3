/-
  entry.Ok: its texts, numbers, file, names.
  A tree of files in memory: FS.Set.
  A tree that a call has turned so far; what of an entry is a node's own.
  extract: what is there gives way; the directory itself.
-/
import Derived.Test.YtgbakogihkdddaaGreatDoorMx16
import Derived.BigRegion
namespace Go.Proofs.YtgbakogihkdddaaGreatDoor
open Go.RowKit
set_option linter.unusedVariables false
set_option linter.unusedSimpArgs false
set_option maxRecDepth 20000

set_option maxHeartbeats 2000000 in
theorem okTexts_any (E : EntV) (P N : Value) (w : World) (hn : E.name.length ≤ 1000000000) (hl : E.link.length ≤ 1000000000) : Calls Tryz.prog 53 #[.agg (entC E P N).toArray] w fun e w' => e = .returned (.bool (okTxs E)) ∧ Kept NoB w w' := by
  obtain ⟨w1, hw1, hob, hk1⟩ := ent_boxed E P N w
  have c1 : w1.cell? ⟨w.heap.size, 1, none⟩ = some (.string (strB E.name)) := by rw [obj_cell hob]; rfl
  have c2 : w1.cell? ⟨w.heap.size, 2, none⟩ = some (.string (strB E.link)) := by rw [obj_cell hob]; rfl
  have HW := Lib.hid hw1; have HK := Lib.hid hk1; have HO := Lib.hid hob
  have HT1 := Lib.hid (fun W => okText_any E.name W hn)
  have HT2 := Lib.hid (fun W => okText_any E.link W hl)
  have HD := Lib.hid (isDirE_any E P N w1)
  have hsz : (strB E.name).size ≤ 9223372036854775807 := by rw [strB_size]; omega
  have HS := Lib.hid (fun W => Tryz.strings_HasSuffix (strB E.name) ⟨#[47]⟩ W hsz)
  have HI := Lib.hid (fun W => isLinkE_any E P N W)
  have hB : okTxs E = (okTx E.name && !(dirK E.kind && Lib.hasSuffix E.name [47]) && (if linkK E.kind = true then okTx E.link else E.link.isEmpty)) := rfl
  obtain ⟨b1, hb1⟩ : ∃ b, b = okTx E.name := ⟨_, rfl⟩
  obtain ⟨b2, hb2⟩ : ∃ b, b = dirK E.kind := ⟨_, rfl⟩
  obtain ⟨b3, hb3⟩ : ∃ b, b = Lib.hasSuffix E.name [47] := ⟨_, rfl⟩
  obtain ⟨b4, hb4⟩ : ∃ b, b = linkK E.kind := ⟨_, rfl⟩
  obtain ⟨b5, hb5⟩ : ∃ b, b = okTx E.link := ⟨_, rfl⟩
  have hb3' : Lib.hasSuffix (strB E.name).data.toList (⟨#[47]⟩ : ByteArray).data.toList = b3 := by rw [hb3]; rfl
  rw [hb3'] at HS
  rw [← hb1, ← hb2, ← hb3, ← hb4, ← hb5] at hB
  rw [← hb1] at HT1
  rw [← hb2] at HD
  rw [← hb4] at HI
  rw [← hb5] at HT2
  have hle : E.link.isEmpty = (strB E.link).toList.isEmpty := by rw [strB_list]
  rw [hle] at hB
  obtain ⟨X1, hX1⟩ : ∃ X, X = strB E.name := ⟨_, rfl⟩
  obtain ⟨X2, hX2⟩ : ∃ X, X = strB E.link := ⟨_, rfl⟩
  rw [← hX1] at c1 HT1 HS
  rw [← hX2] at c2 HT2 hB
  have HB := Lib.hid hB
  clear hw1 hob hk1 hb1 hb2 hb3 hb3' hb4 hb5 hle hX1 hX2 hB hn hl hsz
  go_enter Tryz.func53, Tryz.ntmps53
  go_upto_region 1 with fail
  rw [← HW.out]
  cases b1
  · have HF : Hid (okTxs E = false) := Lib.hid (by rw [HB.out]; rfl)
    go_wp2_with (first | (go_at_call 74; refine (HT1.out _).mono ?_; rintro e w2 ⟨rfl, rfl⟩))
    go_ret
    exact ⟨by rw [HF.out]; rfl, HK.out⟩
  cases b2
  · go_upto_region 3 with (first | (go_at_call 74; refine (HT1.out _).mono ?_; rintro e w2 ⟨rfl, rfl⟩) | (refine load_rowE (by rfl) (.tmp 1) rfl w.heap.size rfl E P N HO.out ?_) | (go_at_call 75; refine HD.out.mono ?_; rintro e w2 ⟨rfl, hk2⟩))
    have d2 := hk2.cell c2
    have HO2 := Lib.hid (hk2.obj HO.out id)
    have HK2 := Lib.hid (HK.out.trans hk2)
    clear hk2 c1 c2
    cases b4
    · have HF : Hid (okTxs E = X2.toList.isEmpty) := Lib.hid (by rw [HB.out]; rfl)
      go_wp2_with (first | (refine load_rowE (by rfl) (.tmp 1) rfl w.heap.size rfl E P N HO2.out ?_) | (go_at_call 77; refine (HI.out _).mono ?_; rintro e w3 ⟨rfl, hk3⟩; have d3 := hk3.cell d2))
      go_ret
      exact ⟨by rw [HF.out]; rfl, HK2.out.trans hk3⟩
    · have HF : Hid (okTxs E = b5) := Lib.hid (by rw [HB.out]; rfl)
      go_wp2_with (first | (refine load_rowE (by rfl) (.tmp 1) rfl w.heap.size rfl E P N HO2.out ?_) | (go_at_call 74; refine (HT2.out _).mono ?_; rintro e w4 ⟨rfl, rfl⟩) | (go_at_call 77; refine (HI.out _).mono ?_; rintro e w3 ⟨rfl, hk3⟩; have d3 := hk3.cell d2))
      go_ret
      exact ⟨by rw [HF.out]; rfl, HK2.out.trans hk3⟩
  cases b3
  · go_upto_region 3 with (first | (go_at_call 74; refine (HT1.out _).mono ?_; rintro e w2 ⟨rfl, rfl⟩) | (refine load_rowE (by rfl) (.tmp 1) rfl w.heap.size rfl E P N HO.out ?_) | (go_at_call 75; refine HD.out.mono ?_; rintro e w2 ⟨rfl, hk2⟩; have d1 := hk2.cell c1) | (go_at_call 76; refine (HS.out _).mono ?_; rintro e w4 ⟨rfl, rfl⟩))
    have d2 := hk2.cell c2
    have HO2 := Lib.hid (hk2.obj HO.out id)
    have HK2 := Lib.hid (HK.out.trans hk2)
    clear hk2 c1 c2
    cases b4
    · have HF : Hid (okTxs E = X2.toList.isEmpty) := Lib.hid (by rw [HB.out]; rfl)
      go_wp2_with (first | (refine load_rowE (by rfl) (.tmp 1) rfl w.heap.size rfl E P N HO2.out ?_) | (go_at_call 77; refine (HI.out _).mono ?_; rintro e w3 ⟨rfl, hk3⟩; have d3 := hk3.cell d2))
      go_ret
      exact ⟨by rw [HF.out]; rfl, HK2.out.trans hk3⟩
    · have HF : Hid (okTxs E = b5) := Lib.hid (by rw [HB.out]; rfl)
      go_wp2_with (first | (refine load_rowE (by rfl) (.tmp 1) rfl w.heap.size rfl E P N HO2.out ?_) | (go_at_call 74; refine (HT2.out _).mono ?_; rintro e w4 ⟨rfl, rfl⟩) | (go_at_call 77; refine (HI.out _).mono ?_; rintro e w3 ⟨rfl, hk3⟩; have d3 := hk3.cell d2))
      go_ret
      exact ⟨by rw [HF.out]; rfl, HK2.out.trans hk3⟩
  · have HF : Hid (okTxs E = false) := Lib.hid (by rw [HB.out]; rfl)
    go_wp2_with (first | (go_at_call 74; refine (HT1.out _).mono ?_; rintro e w2 ⟨rfl, rfl⟩) | (refine load_rowE (by rfl) (.tmp 1) rfl w.heap.size rfl E P N HO.out ?_) | (go_at_call 75; refine HD.out.mono ?_; rintro e w2 ⟨rfl, hk2⟩; have d1 := hk2.cell c1) | (go_at_call 76; refine (HS.out _).mono ?_; rintro e w4 ⟨rfl, rfl⟩))
    go_ret
    exact ⟨by rw [HF.out]; rfl, HK.out.trans hk2⟩

/-- A device's numbers, or none. -/
def okDv (E : EntV) : Bool := if devK E.kind = true then inW E.major 1048575 && inW E.minor 1048575 else decide (E.major = 0) && decide (E.minor = 0)
theorem eq_dec0 (x : Int) : decide (x = 0) = (x == 0) := by
  by_cases h : x = 0 <;> simp [h]
set_option maxHeartbeats 4000000 in
theorem okNumbers_any (E : EntV) (P N : Value) (w : World) : Calls Tryz.prog 54 #[.agg (entC E P N).toArray] w fun e w' => e = .returned (.bool (okNu E)) ∧ Kept NoB w w' := by
  obtain ⟨w1, hw1, hob, hk1⟩ := ent_boxed E P N w
  have cs : ∀ W, Kept NoB w1 W → W.cell? ⟨w.heap.size, 0, none⟩ = some (.int .i64 E.kind) ∧ W.cell? ⟨w.heap.size, 3, none⟩ = some (.int .i64 E.mode) ∧ W.cell? ⟨w.heap.size, 4, none⟩ = some (.int .i64 E.user) ∧ W.cell? ⟨w.heap.size, 5, none⟩ = some (.int .i64 E.group) ∧ W.cell? ⟨w.heap.size, 7, none⟩ = some (.int .i64 E.major) ∧ W.cell? ⟨w.heap.size, 8, none⟩ = some (.int .i64 E.minor) := fun W hW => by
    have h := hW.obj hob id
    exact ⟨by rw [obj_cell h]; rfl, by rw [obj_cell h]; rfl, by rw [obj_cell h]; rfl, by rw [obj_cell h]; rfl, by rw [obj_cell h]; rfl, by rw [obj_cell h]; rfl⟩
  have HW := Lib.hid hw1; have HK := Lib.hid hk1; have HO := Lib.hid hob; have HC := Lib.hid cs
  have HD := Lib.hid (isDeviceE_any E P N w1)
  have hB : okNu E = ((decide (1 ≤ E.kind) && decide (E.kind ≤ 8)) && okDv E && (inW E.mode 4095 && inW E.user 2147483647 && inW E.group 2147483647)) := rfl
  obtain ⟨c0, _, _, _, c7, c8⟩ := cs w1 (Kept.refl _ _)
  have hM1 := fun W => withinE_any E.major 1048575 W
  have hM2 := fun W => withinE_any E.minor 1048575 W
  have hM3 := fun W => withinE_any E.mode 4095 W
  have hM4 := fun W => withinE_any E.user 2147483647 W
  have hM5 := fun W => withinE_any E.group 2147483647 W
  obtain ⟨dv, hdv⟩ : ∃ b, b = okDv E := ⟨_, rfl⟩
  obtain ⟨p3, hp3⟩ : ∃ b, b = inW E.mode 4095 := ⟨_, rfl⟩
  obtain ⟨p4, hp4⟩ : ∃ b, b = inW E.user 2147483647 := ⟨_, rfl⟩
  obtain ⟨p5, hp5⟩ : ∃ b, b = inW E.group 2147483647 := ⟨_, rfl⟩
  rw [← hdv, ← hp3, ← hp4, ← hp5] at hB
  rw [← hp3] at hM3
  rw [← hp4] at hM4
  rw [← hp5] at hM5
  have hdv2 : dv = if devK E.kind = true then inW E.major 1048575 && inW E.minor 1048575 else (E.major == 0) && (E.minor == 0) := by rw [hdv]; unfold okDv; rw [eq_dec0, eq_dec0]
  obtain ⟨p1, hp1⟩ : ∃ b, b = inW E.major 1048575 := ⟨_, rfl⟩
  obtain ⟨p2, hp2⟩ : ∃ b, b = inW E.minor 1048575 := ⟨_, rfl⟩
  rw [← hp1, ← hp2] at hdv2
  rw [← hp1] at hM1
  rw [← hp2] at hM2
  obtain ⟨D, hD⟩ : ∃ b, b = devK E.kind := ⟨_, rfl⟩
  rw [← hD] at HD hdv2
  obtain ⟨kd, hkd⟩ : ∃ k, k = E.kind := ⟨_, rfl⟩
  rw [← hkd] at c0 hB
  obtain ⟨ma, hma⟩ : ∃ k, k = E.major := ⟨_, rfl⟩
  rw [← hma] at c7 hM1 hdv2
  obtain ⟨mi, hmi⟩ : ∃ k, k = E.minor := ⟨_, rfl⟩
  rw [← hmi] at c8 hM2 hdv2
  obtain ⟨md, hmd⟩ : ∃ k, k = E.mode := ⟨_, rfl⟩
  rw [← hmd] at hM3
  obtain ⟨us, hus⟩ : ∃ k, k = E.user := ⟨_, rfl⟩
  rw [← hus] at hM4
  obtain ⟨gr, hgr⟩ : ∃ k, k = E.group := ⟨_, rfl⟩
  rw [← hgr] at hM5
  have HC : Hid (∀ W, Kept NoB w1 W → W.cell? ⟨w.heap.size, 0, none⟩ = some (.int .i64 kd) ∧ W.cell? ⟨w.heap.size, 3, none⟩ = some (.int .i64 md) ∧ W.cell? ⟨w.heap.size, 4, none⟩ = some (.int .i64 us) ∧ W.cell? ⟨w.heap.size, 5, none⟩ = some (.int .i64 gr) ∧ W.cell? ⟨w.heap.size, 7, none⟩ = some (.int .i64 ma) ∧ W.cell? ⟨w.heap.size, 8, none⟩ = some (.int .i64 mi)) := Lib.hid (by rw [hkd, hmd, hus, hgr, hma, hmi]; exact HC.out)
  have HB := Lib.hid hB; have HDv := Lib.hid hdv2
  have HM1 := Lib.hid hM1; have HM2 := Lib.hid hM2; have HM3 := Lib.hid hM3; have HM4 := Lib.hid hM4; have HM5 := Lib.hid hM5
  clear hw1 hob hk1 cs hB hdv hp3 hp4 hp5 hdv2 hp1 hp2 hD hkd hma hmi hmd hus hgr hM1 hM2 hM3 hM4 hM5
  go_enter Tryz.func54, Tryz.ntmps54
  go_upto_region 1 with fail
  rw [← HW.out]
  have hdev : ∀ W, Kept NoB w1 W → Kept NoB w W := fun W h => HK.out.trans h
  have HKd := Lib.hid hdev
  clear hdev
  go_cut [3] (fun s wx => s = .bool ((ma == 0) && (mi == 0)) ∧ wx = w1)
  case first =>
    cases h1 : (ma == 0)
    · go_wp2
      all_goals go_meet
      all_goals exact ⟨by simp [h1], rfl⟩
    · cases h2 : (mi == 0)
      · go_wp2
        all_goals go_meet
        all_goals exact ⟨by simp [h1, h2], rfl⟩
      · go_wp2
        all_goals go_meet
        all_goals exact ⟨by simp [h1, h2], rfl⟩
  case rest =>
    obtain ⟨rfl, hwc⟩ := hcut
    rw [hwc]
    clear hwc
    go_upto_region 2 with fail
    obtain ⟨dz, hdz⟩ : ∃ b, b = ((ma == 0) && (mi == 0)) := ⟨_, rfl⟩
    rw [← hdz] at HDv ⊢
    clear hdz c0 c7 c8
    cases D
    · have HDz : Hid (dv = dz) := Lib.hid (by rw [HDv.out]; rfl)
      go_upto_region 4 with (first | (refine load_rowE (by rfl) (.tmp 1) rfl w.heap.size rfl E P N HO.out ?_) | (go_at_call 78; refine HD.out.mono ?_; rintro e w2 ⟨rfl, hk2⟩))
      have HK2 := Lib.hid hk2
      clear hk2
      obtain ⟨d0, d3, d4, d5, _, _⟩ := HC.out _ HK2.out
      have HKE := Lib.hid (HK.out.trans HK2.out)
      have HB3 : Hid (okNu E = (decide (1 ≤ kd) && decide (kd ≤ 8) && dz && (p3 && p4 && p5))) := Lib.hid (by rw [HB.out, HDz.out]; try rfl)
      clear HB HDz HDv HM1 HM2 HC HO HK HD HK2
      by_cases k1 : 1 ≤ kd
      rotate_left
      · have HF : Hid (okNu E = false) := Lib.hid (by rw [HB3.out, decide_eq_false k1]; rfl)
        clear HB3
        go_wp2
        go_ret
        exact ⟨by rw [HF.out]; rfl, HKE.out⟩
      by_cases k8 : kd ≤ 8
      rotate_left
      · have HF : Hid (okNu E = false) := Lib.hid (by rw [HB3.out, decide_eq_false k8]; simp)
        clear HB3
        go_wp2
        go_ret
        exact ⟨by rw [HF.out]; rfl, HKE.out⟩
      replace HB3 : Hid (okNu E = (dz && (p3 && p4 && p5))) := Lib.hid (by rw [HB3.out, decide_eq_true k1, decide_eq_true k8]; rfl)
      cases dz
      · have HF : Hid (okNu E = false) := Lib.hid (by rw [HB3.out]; rfl)
        clear HB3
        go_wp2
        go_ret
        exact ⟨by rw [HF.out]; rfl, HKE.out⟩
      cases p3
      · have HF : Hid (okNu E = false) := Lib.hid (by rw [HB3.out]; rfl)
        clear HB3
        go_wp2_with (go_at_call 79; first | ((with_reducible refine (HM3.out _).mono ?_); rintro e w3 ⟨rfl, rfl⟩))
        go_ret
        exact ⟨by rw [HF.out]; rfl, HKE.out⟩
      cases p4
      · have HF : Hid (okNu E = false) := Lib.hid (by rw [HB3.out]; rfl)
        clear HB3
        go_wp2_with (go_at_call 79; first | ((with_reducible refine (HM3.out _).mono ?_); rintro e w3 ⟨rfl, rfl⟩) | ((with_reducible refine (HM4.out _).mono ?_); rintro e w3 ⟨rfl, rfl⟩))
        go_ret
        exact ⟨by rw [HF.out]; rfl, HKE.out⟩
      have HF : Hid (okNu E = p5) := Lib.hid (by rw [HB3.out]; rfl)
      clear HB3
      cases p5
      · go_wp2_with (go_at_call 79; first | ((with_reducible refine (HM3.out _).mono ?_); rintro e w3 ⟨rfl, rfl⟩) | ((with_reducible refine (HM4.out _).mono ?_); rintro e w3 ⟨rfl, rfl⟩) | ((with_reducible refine (HM5.out _).mono ?_); rintro e w3 ⟨rfl, rfl⟩))
        go_ret
        exact ⟨by rw [HF.out]; rfl, HKE.out⟩
      · go_wp2_with (go_at_call 79; first | ((with_reducible refine (HM3.out _).mono ?_); rintro e w3 ⟨rfl, rfl⟩) | ((with_reducible refine (HM4.out _).mono ?_); rintro e w3 ⟨rfl, rfl⟩) | ((with_reducible refine (HM5.out _).mono ?_); rintro e w3 ⟨rfl, rfl⟩))
        go_ret
        exact ⟨by rw [HF.out]; rfl, HKE.out⟩
    · have HDz : Hid (dv = (p1 && p2)) := Lib.hid (by rw [HDv.out]; rfl)
      go_upto_region 3 with (first | (refine load_rowE (by rfl) (.tmp 1) rfl w.heap.size rfl E P N HO.out ?_) | (go_at_call 78; refine HD.out.mono ?_; rintro e w2 ⟨rfl, hk2⟩))
      obtain ⟨_, _, _, _, d7, d8⟩ := HC.out _ hk2
      have HK2 := Lib.hid hk2
      clear hk2
      cases p1
      · replace HDz : Hid (dv = false) := Lib.hid (by rw [HDz.out]; rfl)
        go_upto_region 4 with (go_at_call 79; (with_reducible refine (HM1.out _).mono ?_); rintro e w3 ⟨rfl, rfl⟩)
        obtain ⟨d0, d3, d4, d5, _, _⟩ := HC.out _ HK2.out
        have HKE := Lib.hid (HK.out.trans HK2.out)
        have HB3 : Hid (okNu E = (decide (1 ≤ kd) && decide (kd ≤ 8) && false && (p3 && p4 && p5))) := Lib.hid (by rw [HB.out, HDz.out]; try rfl)
        clear HB HDz HDv HM1 HM2 HC HO HK HD HK2
        by_cases k1 : 1 ≤ kd
        rotate_left
        · have HF : Hid (okNu E = false) := Lib.hid (by rw [HB3.out, decide_eq_false k1]; rfl)
          clear HB3
          go_wp2
          go_ret
          exact ⟨by rw [HF.out]; rfl, HKE.out⟩
        by_cases k8 : kd ≤ 8
        rotate_left
        · have HF : Hid (okNu E = false) := Lib.hid (by rw [HB3.out, decide_eq_false k8]; simp)
          clear HB3
          go_wp2
          go_ret
          exact ⟨by rw [HF.out]; rfl, HKE.out⟩
        replace HB3 : Hid (okNu E = (false && (p3 && p4 && p5))) := Lib.hid (by rw [HB3.out, decide_eq_true k1, decide_eq_true k8]; rfl)
        have HF : Hid (okNu E = false) := Lib.hid (by rw [HB3.out]; rfl)
        clear HB3
        go_wp2
        go_ret
        exact ⟨by rw [HF.out]; rfl, HKE.out⟩
      · replace HDz : Hid (dv = p2) := Lib.hid (by rw [HDz.out]; rfl)
        go_upto_region 4 with (go_at_call 79; first | ((with_reducible refine (HM1.out _).mono ?_); rintro e w3 ⟨rfl, rfl⟩) | ((with_reducible refine (HM2.out _).mono ?_); rintro e w3 ⟨rfl, rfl⟩))
        obtain ⟨d0, d3, d4, d5, _, _⟩ := HC.out _ HK2.out
        have HKE := Lib.hid (HK.out.trans HK2.out)
        have HB3 : Hid (okNu E = (decide (1 ≤ kd) && decide (kd ≤ 8) && p2 && (p3 && p4 && p5))) := Lib.hid (by rw [HB.out, HDz.out]; try rfl)
        clear HB HDz HDv HM1 HM2 HC HO HK HD HK2
        by_cases k1 : 1 ≤ kd
        rotate_left
        · have HF : Hid (okNu E = false) := Lib.hid (by rw [HB3.out, decide_eq_false k1]; rfl)
          clear HB3
          go_wp2
          go_ret
          exact ⟨by rw [HF.out]; rfl, HKE.out⟩
        by_cases k8 : kd ≤ 8
        rotate_left
        · have HF : Hid (okNu E = false) := Lib.hid (by rw [HB3.out, decide_eq_false k8]; simp)
          clear HB3
          go_wp2
          go_ret
          exact ⟨by rw [HF.out]; rfl, HKE.out⟩
        replace HB3 : Hid (okNu E = (p2 && (p3 && p4 && p5))) := Lib.hid (by rw [HB3.out, decide_eq_true k1, decide_eq_true k8]; rfl)
        cases p2
        · have HF : Hid (okNu E = false) := Lib.hid (by rw [HB3.out]; rfl)
          clear HB3
          go_wp2
          go_ret
          exact ⟨by rw [HF.out]; rfl, HKE.out⟩
        cases p3
        · have HF : Hid (okNu E = false) := Lib.hid (by rw [HB3.out]; rfl)
          clear HB3
          go_wp2_with (go_at_call 79; first | ((with_reducible refine (HM3.out _).mono ?_); rintro e w3 ⟨rfl, rfl⟩))
          go_ret
          exact ⟨by rw [HF.out]; rfl, HKE.out⟩
        cases p4
        · have HF : Hid (okNu E = false) := Lib.hid (by rw [HB3.out]; rfl)
          clear HB3
          go_wp2_with (go_at_call 79; first | ((with_reducible refine (HM3.out _).mono ?_); rintro e w3 ⟨rfl, rfl⟩) | ((with_reducible refine (HM4.out _).mono ?_); rintro e w3 ⟨rfl, rfl⟩))
          go_ret
          exact ⟨by rw [HF.out]; rfl, HKE.out⟩
        have HF : Hid (okNu E = p5) := Lib.hid (by rw [HB3.out]; rfl)
        clear HB3
        cases p5
        · go_wp2_with (go_at_call 79; first | ((with_reducible refine (HM3.out _).mono ?_); rintro e w3 ⟨rfl, rfl⟩) | ((with_reducible refine (HM4.out _).mono ?_); rintro e w3 ⟨rfl, rfl⟩) | ((with_reducible refine (HM5.out _).mono ?_); rintro e w3 ⟨rfl, rfl⟩))
          go_ret
          exact ⟨by rw [HF.out]; rfl, HKE.out⟩
        · go_wp2_with (go_at_call 79; first | ((with_reducible refine (HM3.out _).mono ?_); rintro e w3 ⟨rfl, rfl⟩) | ((with_reducible refine (HM4.out _).mono ?_); rintro e w3 ⟨rfl, rfl⟩) | ((with_reducible refine (HM5.out _).mono ?_); rintro e w3 ⟨rfl, rfl⟩))
          go_ret
          exact ⟨by rw [HF.out]; rfl, HKE.out⟩

/-- What is read of an entry: its pieces lie in a row below the world's end. -/
structure EntR (w : World) (E : EntV) (pa : Option Addr) (pc : Nat) : Prop where
  pcs : RdP w w.heap.size pa E.pcs
  ints : IntP E.pcs
  room : E.pcs.length ≤ pc
  most : pc ≤ maxLen
  size : -9223372036854775808 ≤ E.size ∧ E.size ≤ 9223372036854775807
theorem EntR.kept {w w' : World} {E : EntV} {pa : Option Addr} {pc : Nat} (h : EntR w E pa pc) (hk : Kept NoB w w') : EntR w' E pa pc :=
  ⟨(h.pcs.kept hk).room hk.size, h.ints, h.room, h.most, h.size⟩
set_option maxHeartbeats 1000000 in
theorem okFile_any (E : EntV) (pa : Option Addr) (pc : Nat) (N : Value) (w : World) (hE : EntR w E pa pc) : Calls Tryz.prog 55 #[.agg (entC E (.slice pa E.pcs.length pc) N).toArray] w fun e w' => e = .returned (.bool (okFi E)) ∧ Kept NoB w w' := by
  obtain ⟨w1, hw1, hob, hk1⟩ := ent_boxed E (.slice pa E.pcs.length pc) N w
  have c0 : w1.cell? ⟨w.heap.size, 0, none⟩ = some (.int .i64 E.kind) := by rw [obj_cell hob]; rfl
  have c9 : w1.cell? ⟨w.heap.size, 9, none⟩ = some (.int .i64 E.size) := by rw [obj_cell hob]; rfl
  have c10 : w1.cell? ⟨w.heap.size, 10, none⟩ = some (.slice pa E.pcs.length pc) := by rw [obj_cell hob]; rfl
  have hE1 := hE.kept hk1
  have HS := Lib.hid (spok_any E.size pa E.pcs.length pc E.pcs w1 hE.size.1 hE.size.2 rfl hE1.pcs hE.ints hE.room hE.most)
  have HW := Lib.hid hw1; have HK := Lib.hid hk1
  have hB : okFi E = if E.kind = 1 then okS E.size E.pcs else (E.size == 0) && (E.pcs.length == 0) := by
    unfold okFi
    rw [eq_dec0]
    have : E.pcs.isEmpty = (E.pcs.length == 0) := by cases E.pcs <;> rfl
    rw [this]
  obtain ⟨R, hR⟩ : ∃ R, R = okFi E := ⟨_, rfl⟩
  rw [← hR] at hB ⊢
  obtain ⟨q, hq⟩ : ∃ q, q = okS E.size E.pcs := ⟨_, rfl⟩
  rw [← hq] at hB HS
  obtain ⟨n, hn⟩ : ∃ n, n = E.pcs.length := ⟨_, rfl⟩
  obtain ⟨sz, hsz⟩ : ∃ n, n = E.size := ⟨_, rfl⟩
  obtain ⟨kd, hkd⟩ : ∃ n, n = E.kind := ⟨_, rfl⟩
  rw [← hn, ← hsz, ← hkd] at hB
  have hrm := hE.room; have hms := hE.most
  rw [← hn] at c10 HS hrm ⊢
  rw [← hsz] at c9 HS
  rw [← hkd] at c0
  clear hw1 hob hk1 hE hE1 hR hq
  have hb : n ≤ 9223372036854775807 := by unfold maxLen at hms; omega
  go_enter Tryz.func55, Tryz.ntmps55
  go_upto_region 1 with fail
  rw [hn, ← HW.out, ← hn]
  by_cases h1 : kd = 1
  · have e1 : (kd == 1) = true := by simpa using h1
    rw [if_pos h1] at hB
    have HF := Lib.hid hB
    clear hB hn hsz hkd
    go_wp2_with (go_at_call 80; refine HS.out.mono ?_; rintro e w2 ⟨rfl, hk2⟩)
    go_ret
    exact ⟨by rw [HF.out]; rfl, HK.out.trans hk2⟩
  · have e1 : (kd == 1) = false := by simpa using h1
    rw [if_neg h1] at hB
    clear hn hsz hkd
    by_cases z : sz = 0
    · have z1 : (sz == 0) = true := by simpa using z
      rw [z1, Bool.true_and] at hB
      by_cases y : n = 0
      · have y1 : ((n : Int) == 0) = true := by simp [y]
        have y2 : (n == 0) = true := by simp [y]
        rw [y2] at hB
        have HF := Lib.hid hB
        clear hB
        go_wp2
        go_ret
        exact ⟨by rw [HF.out]; rfl, HK.out⟩
      · have y1 : ((n : Int) == 0) = false := by simp; omega
        have y2 : (n == 0) = false := by simp [y]
        rw [y2] at hB
        have HF := Lib.hid hB
        clear hB
        go_wp2
        go_ret
        exact ⟨by rw [HF.out]; rfl, HK.out⟩
    · have z1 : (sz == 0) = false := by simpa using z
      rw [z1, Bool.false_and] at hB
      have HF := Lib.hid hB
      clear hB
      go_wp2
      go_ret
      exact ⟨by rw [HF.out]; rfl, HK.out⟩
theorem indexFunc_none (fn : Value) (na : Option Addr) (nc : Nat) (w : World) : Calls Tryz.prog 96 #[.slice na 0 nc, fn] w fun e w' => e = .returned (.int .i64 (-1)) ∧ w' = w := by
  go_enter Tryz.func96, Tryz.ntmps96
  go_wp2
  go_loopw [8] (fun v8 wr => v8 = .int .i64 0 ∧ wr = w) (fun _ _ => 0)
  case atStart => exact ⟨rfl, rfl⟩
  case round =>
    obtain ⟨rfl, rfl⟩ := hrel
    go_wp2
    go_ret
    exact ⟨rfl, rfl⟩
theorem containsFunc_none (fn : Value) (na : Option Addr) (nc : Nat) (w : World) : Calls Tryz.prog 81 #[.slice na 0 nc, fn] w fun e w' => e = .returned (.bool false) ∧ w' = w := by
  have HI := Lib.hid (indexFunc_none fn na nc)
  go_enter Tryz.func81, Tryz.ntmps81
  go_wp2_with (go_at_call 96; refine (HI.out _).mono ?_; rintro e w2 ⟨rfl, rfl⟩)
  go_ret
  exact ⟨rfl, rfl⟩
theorem okNames_any (E : EntV) (P : Value) (na : Option Addr) (nc : Nat) (w : World) : Calls Tryz.prog 56 #[.agg (entC E P (.slice na 0 nc)).toArray] w fun e w' => e = .returned (.bool true) ∧ Kept NoB w w' := by
  obtain ⟨w1, hw1, hob, hk1⟩ := ent_boxed E P (.slice na 0 nc) w
  have c0 : w1.cell? ⟨w.heap.size, 0, none⟩ = some (.int .i64 E.kind) := by rw [obj_cell hob]; rfl
  have c11 : w1.cell? ⟨w.heap.size, 11, none⟩ = some (.slice na 0 nc) := by rw [obj_cell hob]; rfl
  have HW := Lib.hid hw1; have HK := Lib.hid hk1
  have HCf := Lib.hid (fun fn W => containsFunc_none fn na nc W)
  obtain ⟨kd, hkd⟩ : ∃ n, n = E.kind := ⟨_, rfl⟩
  rw [← hkd] at c0
  clear hw1 hob hk1 hkd
  go_enter Tryz.func56, Tryz.ntmps56
  go_upto_region 1 with fail
  rw [← HW.out]
  by_cases h : kd = 8
  · have e : (kd != 8) = false := by simp [h]
    go_wp2_with (go_at_call 81; refine (HCf.out _ _).mono ?_; rintro e w2 ⟨rfl, rfl⟩)
    go_ret
    exact ⟨rfl, HK.out⟩
  · have e : (kd != 8) = true := by simp [h]
    go_wp2_with (go_at_call 81; refine (HCf.out _ _).mono ?_; rintro e w2 ⟨rfl, rfl⟩)
    go_ret
    exact ⟨rfl, HK.out⟩
set_option maxHeartbeats 1000000 in
theorem entOk_any (E : EntV) (pa : Option Addr) (pc : Nat) (na : Option Addr) (nc : Nat) (w : World) (hE : EntR w E pa pc) (hn : E.name.length ≤ 1000000000) (hl : E.link.length ≤ 1000000000) :
    Calls Tryz.prog 31 #[.agg (entC E (.slice pa E.pcs.length pc) (.slice na 0 nc)).toArray] w fun e w' => e = .returned (.bool (okE E)) ∧ Kept NoB w w' := by
  obtain ⟨P, hP⟩ : ∃ P : Value, P = .slice pa E.pcs.length pc := ⟨_, rfl⟩
  obtain ⟨N, hN⟩ : ∃ N : Value, N = .slice na 0 nc := ⟨_, rfl⟩
  obtain ⟨w1, hw1, hob, hk1⟩ := ent_boxed E P N w
  have HE := Lib.hid (hE.kept hk1)
  have H1 := Lib.hid (okTexts_any E P N w1 hn hl)
  have H2 := Lib.hid (fun W => okNumbers_any E P N W)
  have H3 : Hid (∀ W, Kept NoB w1 W → Calls Tryz.prog 55 #[.agg (entC E P N).toArray] W fun e w' => e = .returned (.bool (okFi E)) ∧ Kept NoB W w') := Lib.hid (fun W hW => by rw [hP]; exact okFile_any E pa pc N W (HE.out.kept hW))
  have H4 : Hid (∀ W, Calls Tryz.prog 56 #[.agg (entC E P N).toArray] W fun e w' => e = .returned (.bool true) ∧ Kept NoB W w') := Lib.hid (fun W => by rw [hN]; exact okNames_any E P na nc W)
  have hB : okE E = (okTxs E && okNu E && okFi E) := rfl
  obtain ⟨R, hR⟩ : ∃ R, R = okE E := ⟨_, rfl⟩
  rw [← hR] at hB ⊢
  obtain ⟨b1, hb1⟩ : ∃ b, b = okTxs E := ⟨_, rfl⟩
  obtain ⟨b2, hb2⟩ : ∃ b, b = okNu E := ⟨_, rfl⟩
  obtain ⟨b3, hb3⟩ : ∃ b, b = okFi E := ⟨_, rfl⟩
  rw [← hb1, ← hb2, ← hb3] at hB
  rw [← hb1] at H1
  rw [← hb2] at H2
  rw [← hb3] at H3
  rw [← hP, ← hN]
  have HW := Lib.hid hw1; have HK := Lib.hid hk1; have HO := Lib.hid hob
  clear hw1 hob hk1 hE hn hl hR hb1 hb2 hb3 hP hN
  go_enter Tryz.func31, Tryz.ntmps31
  go_upto_region 1 with fail
  rw [← HW.out]
  cases b1
  · have HF := Lib.hid hB
    clear hB
    go_wp2_with (first | (refine load_rowE (by rfl) (.tmp 1) rfl w.heap.size rfl E P N HO.out ?_) | (go_at_call 53; refine H1.out.mono ?_; rintro e w2 ⟨rfl, hk2⟩))
    go_ret
    exact ⟨by rw [HF.out]; rfl, HK.out.trans hk2⟩
  cases b2
  · have HF := Lib.hid hB
    clear hB
    go_wp2_with (first | (refine load_rowE (by rfl) (.tmp 1) rfl w.heap.size rfl E P N HO.out ?_) | (refine load_rowE (by rfl) (.tmp 1) rfl w.heap.size rfl E P N HO2.out ?_) | (go_at_call 53; refine H1.out.mono ?_; rintro e w2 ⟨rfl, hk2⟩; have HO2 := Lib.hid (hk2.obj HO.out id)) | (go_at_call 54; refine (H2.out _).mono ?_; rintro e w3 ⟨rfl, hk3⟩))
    go_ret
    exact ⟨by rw [HF.out]; rfl, (HK.out.trans hk2).trans hk3⟩
  cases b3
  · have HF := Lib.hid hB
    clear hB
    go_wp2_with (first | (refine load_rowE (by rfl) (.tmp 1) rfl w.heap.size rfl E P N HO.out ?_) | (refine load_rowE (by rfl) (.tmp 1) rfl w.heap.size rfl E P N HO2.out ?_) | (refine load_rowE (by rfl) (.tmp 1) rfl w.heap.size rfl E P N HO3.out ?_) | (go_at_call 53; refine H1.out.mono ?_; rintro e w2 ⟨rfl, hk2⟩; have HO2 := Lib.hid (hk2.obj HO.out id)) | (go_at_call 54; refine (H2.out _).mono ?_; rintro e w3 ⟨rfl, hk3⟩; replace hk3 := hk2.trans hk3; have HO3 := Lib.hid (hk3.obj HO.out id)) | (go_at_call 55; refine (H3.out _ hk3).mono ?_; rintro e w4 ⟨rfl, hk4⟩; replace hk4 := hk3.trans hk4))
    go_ret
    exact ⟨by rw [HF.out]; rfl, HK.out.trans hk4⟩
  · have HF := Lib.hid hB
    clear hB
    go_wp2_with (first | (refine load_rowE (by rfl) (.tmp 1) rfl w.heap.size rfl E P N HO.out ?_) | (refine load_rowE (by rfl) (.tmp 1) rfl w.heap.size rfl E P N HO2.out ?_) | (refine load_rowE (by rfl) (.tmp 1) rfl w.heap.size rfl E P N HO3.out ?_) | (refine load_rowE (by rfl) (.tmp 1) rfl w.heap.size rfl E P N HO4.out ?_) | (go_at_call 53; refine H1.out.mono ?_; rintro e w2 ⟨rfl, hk2⟩; have HO2 := Lib.hid (hk2.obj HO.out id)) | (go_at_call 54; refine (H2.out _).mono ?_; rintro e w3 ⟨rfl, hk3⟩; replace hk3 := hk2.trans hk3; have HO3 := Lib.hid (hk3.obj HO.out id)) | (go_at_call 55; refine (H3.out _ hk3).mono ?_; rintro e w4 ⟨rfl, hk4⟩; replace hk4 := hk3.trans hk4; have HO4 := Lib.hid (hk4.obj HO.out id)) | (go_at_call 56; refine (H4.out _).mono ?_; rintro e w5 ⟨rfl, hk5⟩))
    go_ret
    exact ⟨by rw [HF.out]; rfl, HK.out.trans (hk4.trans hk5)⟩
end Go.Proofs.YtgbakogihkdddaaGreatDoor

namespace Go.Proofs.YtgbakogihkdddaaGreatDoor
open Go.RowKit
set_option linter.unusedVariables false
set_option linter.unusedSimpArgs false
set_option maxRecDepth 20000

set_option maxHeartbeats 4000000 in
theorem set_any {S : Nat → Prop} {w : World} {f : Nat} {T : FsP} (h : FsSt S w f T) (i : Int) (hi : -9223372036854775808 ≤ i ∧ i ≤ 9223372036854775807) (v : NodeV)
    (ht : -9223372036854775808 ≤ v.time ∧ v.time ≤ 9223372036854775807) (hclk : T.clock + 1 ≤ 4611686018427387904) :
    Calls Tryz.prog 58 #[.pointer (some ⟨f, 0, none⟩), .int .i64 i, .agg (nvC v).toArray] w fun e w' =>
      e = .returned (.int .i64 (setP T i v).2) ∧ FsSt (Grow S w w') w' f (setP T i v).1 ∧ Kept S w w' := by
  obtain ⟨L, B, mb, h⟩ := h
  obtain ⟨w1, hw1⟩ : ∃ w1, w1 = w.alloc (.cells (nvC v).toArray 27) := ⟨_, rfl⟩
  have hk1 : Kept NoB w w1 := by rw [hw1]; exact (Kept.refl NoB w).alloc _
  have hob1 : w1.heap[w.heap.size]? = some (.cells (nvC v).toArray 27 (0, 0)) := by rw [hw1]; exact heap_alloc_new _ _
  have h1 := h.keptNo hk1
  have HW1 := Lib.hid hw1
  clear hw1
  have same : ∀ w', Kept NoB w w' → FsSt (Grow S w w') w' f T ∧ Kept S w w' := fun w' hk => ⟨⟨L, B, mb, (h.keptNo hk).mono (fun k e => .inl e)⟩, hk.mono (fun k _ e => e.elim)⟩
  obtain ⟨c0, c1, c2, c3, c4⟩ := h1.cells
  have HT := Lib.hid h1.tab
  cases hn : T.nd i with
  | none =>
    have hB := h.gone hn
    rw [setP_none v hn]
    have HSm := Lib.hid same; have HK1 := Lib.hid hk1
    clear h h1 same hob1 hk1 hn c1 c2 c3 c4
    go_enter Tryz.func58, Tryz.ntmps58
    go_upto_region 1 with fail
    rw [← HW1.out]
    go_wp2_with (at_lookup; refine wpList_nodes_ok rfl _ _ rfl HT.out rfl rfl hi ?_; rw [hB, ptrV_none])
    go_ret
    exact ⟨rfl, HSm.out _ HK1.out⟩
  | some n =>
    obtain ⟨D, m, a, c, qs, hB, hN⟩ := h.at hn
    rw [setP_yes v hn]
    have HMay := Lib.hid (mayBeSet_any v)
    by_cases hm : setB v = true
    rotate_left
    · rw [if_neg hm]
      have hm' : setB v = false := by simpa using hm
      rw [hm'] at HMay
      have HSm := Lib.hid same; have HK1 := Lib.hid hk1; have HO1 := Lib.hid hob1
      clear h h1 same hob1 hk1 hm hm' hN hn c1 c2 c3 c4
      go_enter Tryz.func58, Tryz.ntmps58
      go_upto_region 1 with fail
      rw [← HW1.out]
      go_wp2_with (first | (at_lookup; refine wpList_nodes_ok rfl _ _ rfl HT.out rfl rfl hi ?_; rw [hB, ptrV_some]) | (refine load_rowN (by rfl) (.tmp 5) rfl w.heap.size rfl v HO1.out ?_) | (go_at_call 45; refine (HMay.out _).mono ?_; rintro e w2 ⟨rfl, rfl⟩))
      go_ret
      exact ⟨rfl, HSm.out _ (HK1.out.alloc _)⟩
    rw [if_pos hm]
    rw [hm] at HMay
    have HA := Lib.hid (⟨h, hN, hB, hn, hm⟩ : _ ∧ _ ∧ _ ∧ _ ∧ _)
    have HCk := Lib.hid h.ok.clock
    have HK1 := Lib.hid hk1; have HO1 := Lib.hid hob1
    clear h h1 same hob1 hk1 hm hN hn c1 c2 c3 c4
    go_enter Tryz.func58, Tryz.ntmps58
    go_upto_region 1 with fail
    rw [← HW1.out]
    go_upto_region 6 with (first | (at_lookup; refine wpList_nodes_ok rfl _ _ rfl HT.out rfl rfl hi ?_; rw [hB, ptrV_some]) | (refine load_rowN (by rfl) (.tmp 5) rfl w.heap.size rfl v HO1.out ?_) | (go_at_call 45; refine (HMay.out _).mono ?_; rintro e w2 ⟨rfl, rfl⟩))
    obtain ⟨wn, hwn⟩ : ∃ wn, wn = w1.alloc (.cells (nvC v).toArray 27) := ⟨_, rfl⟩
    rw [← hwn]
    have hkw : Kept NoB w wn := by rw [hwn]; exact HK1.out.alloc _
    have hobn : wn.heap[w.heap.size]? = some (.cells (nvC v).toArray 27 (0, 0)) := by
      rw [hwn]; exact ((Kept.refl NoB w1).alloc _).obj HO1.out id
    have HKw := Lib.hid hkw; have HOn := Lib.hid hobn
    clear hkw hobn hwn c0
    -- the clock
    have hn3 : FsIn L B mb S wn f T := HA.out.1.keptNo HKw.out
    have hN3 : NdSt L i wn D n m a c qs := HA.out.2.1.kept HKw.out (fun _ _ e => e) (fun _ _ e => e) (fun _ _ e => e) (fun _ _ e => e)
    have HTk := Lib.hid (tick_any (w := wn) (f := f) (fc := (fsC mb T).toArray) (c := T.clock) [] (fun _ => #[]) none 0 hn3.obj rfl ⟨HCk.out, by omega⟩ (fun i hi => absurd hi (by simp)) (fun x hx => by simp at hx) (by simp))
    have HI3 := Lib.hid hn3; have HN3 := Lib.hid hN3
    clear hn3 hN3
    go_wp2_with fail
    refine HTk.out.mono ?_
    rintro e w3 ⟨rfl, o3, _, k3, s3⟩
    have o3' : w3.heap[f]? = some (.cells (fsC mb { T with clock := T.clock + 1 }).toArray 66 (0, 0)) := o3
    have k3' : Kept (OneB f) wn w3 := k3.mono (fun j _ e => by rcases e with e | e; exact e; simp at e)
    have hlf := HI3.out.labf
    have N3 : NdSt L i w3 D n m a c qs := HN3.out.kept k3' (fun j e hj => by rw [hj, hlf] at e; cases e) (fun j e hj => by rw [hj, hlf] at e; cases e) (fun j e hj => by rw [hj, hlf] at e; cases e) (fun j e hj => by rw [hj, hlf] at e; cases e)
    have hSl : ∀ j x, L j = x → x ≠ .no → S j ∧ j < w.heap.size := fun j x => HA.out.1.low
    have hlD := N3.lab
    have hfD : D ≠ f := fun e => by rw [e, hlf] at hlD; cases hlD
    have hft := (hSl f _ hlf (by simp)).2
    have hDt := (hSl D _ hlD (by simp)).2
    have hob3 : w3.heap[w.heap.size]? = some (.cells (nvC v).toArray 27 (0, 0)) := k3'.obj HOn.out (fun e => by have e : w.heap.size = f := e; omega)
    obtain ⟨g, hg⟩ : ∃ g, g = w.heap.size := ⟨_, rfl⟩
    rw [← hg] at hob3 ⊢
    have hgD : g ≠ D := by omega
    obtain ⟨md, hmd⟩ : ∃ x, x = v.mode := ⟨_, rfl⟩
    obtain ⟨us, hus⟩ : ∃ x, x = v.user := ⟨_, rfl⟩
    obtain ⟨gr, hgr⟩ : ∃ x, x = v.group := ⟨_, rfl⟩
    obtain ⟨tm, htm⟩ : ∃ x, x = v.time := ⟨_, rfl⟩
    have l1 : w3.cell? ⟨g, 1, none⟩ = some (.int .i64 md) := by rw [obj_cell hob3, hmd]; rfl
    have l2 : w3.cell? ⟨g, 2, none⟩ = some (.int .i64 us) := by rw [obj_cell hob3, hus]; rfl
    have l3 : w3.cell? ⟨g, 3, none⟩ = some (.int .i64 gr) := by rw [obj_cell hob3, hgr]; rfl
    have l4 : w3.cell? ⟨g, 4, none⟩ = some (.int .i64 tm) := by rw [obj_cell hob3, htm]; rfl
    have n3 := N3.obj
    have x1 : w3.cell? ⟨D, 1, none⟩ = some (.int .i64 n.v.mode) := by rw [obj_cell n3]; rfl
    have x2 : w3.cell? ⟨D, 2, none⟩ = some (.int .i64 n.v.user) := by rw [obj_cell n3]; rfl
    have x3 : w3.cell? ⟨D, 3, none⟩ = some (.int .i64 n.v.group) := by rw [obj_cell n3]; rfl
    have x4 : w3.cell? ⟨D, 4, none⟩ = some (.int .i64 n.v.time) := by rw [obj_cell n3]; rfl
    have g1 := obj_free n3 1
    have g2 := obj_free n3 2
    have g3 := obj_free n3 3
    have g4 := obj_free n3 4
    have HQ := Lib.hid (⟨N3, hSl, hlD, hfD, k3', o3', hmd, hus, hgr, htm⟩ : _ ∧ _ ∧ _ ∧ _ ∧ _ ∧ _ ∧ _ ∧ _ ∧ _ ∧ _)
    clear o3 k3 s3 o3' k3' N3 hSl hlD HTk hlf hmd hus hgr htm n3 hob3 hg hft hDt
    go_upto_region 7 with fail
    go_region
    obtain ⟨w7, hw7⟩ : ∃ x, x = ((((w3.setCell ⟨D, 1, none⟩ (.int .i64 md)).setCell ⟨D, 2, none⟩ (.int .i64 us)).setCell ⟨D, 3, none⟩ (.int .i64 gr)).setCell ⟨D, 4, none⟩ (.int .i64 tm)).drew := ⟨_, rfl⟩
    rw [← hw7]
    clear l1 l2 l3 l4 x1 x2 x3 x4 g1 g2 g3 g4
    obtain ⟨N3, hSl, hlD, hfD, k3', o3', hmd, hus, hgr, htm⟩ := HQ.out
    have hlf := HI3.out.labf
    have k37 : Kept (OneB D) w3 w7 := by rw [hw7]; exact ((((kept_one w3 D 1 _).trans (kept_one _ D 2 _)).trans (kept_one _ D 3 _)).trans (kept_one _ D 4 _)).drew
    have n7 : w7.heap[D]? = some (.cells (ndC { n with v := { n.v with mode := md, user := us, group := gr, time := tm } } m a c).toArray 63 (0, 0)) := by
      have h0 := obj_set (obj_set (obj_set (obj_set N3.obj 1 (.int .i64 md)) 2 (.int .i64 us)) 3 (.int .i64 gr)) 4 (.int .i64 tm)
      rw [hw7]
      exact h0
    have o7 : w7.heap[f]? = some (.cells (fsC mb { T with clock := T.clock + 1 }).toArray 66 (0, 0)) := k37.obj o3' (fun e => hfD e.symm)
    obtain ⟨cl, hcl⟩ : ∃ cl, cl = T.clock + 1 := ⟨_, rfl⟩
    have f4 : w7.cell? ⟨f, 4, none⟩ = some (.int .i64 cl) := by rw [obj_cell o7, hcl]; rfl
    have f10 : w7.cell? ⟨D, 10, none⟩ = some (.int .i64 n.v.change) := by rw [obj_cell n7]; rfl
    have g10 := obj_free n7 10
    obtain ⟨w8, hw8⟩ : ∃ w8, w8 = w7.setCell ⟨D, 10, none⟩ (.int .i64 cl) := ⟨_, rfl⟩
    have k78 : Kept (OneB D) w7 w8 := by rw [hw8]; exact kept_one _ _ _ _
    have hfin : Hid (FsSt (Grow S w w8) w8 f (setT T i n v) ∧ Kept S w w8) := Lib.hid (by
      obtain ⟨h, hN, hB, hn, hm⟩ := HA.out
      have n8 : w8.heap[D]? = some (.cells (ndC (setN n v (T.clock + 1)) m a c).toArray 63 (0, 0)) := by
        have h0 := obj_set n7 10 (.int .i64 cl)
        rw [hw8]
        rw [hcl, hmd, hus, hgr, htm] at h0
        rw [hcl]
        exact h0
      have o8 : w8.heap[f]? = some (.cells (fsC mb { T with clock := T.clock + 1 }).toArray 66 (0, 0)) := k78.obj o7 (fun e => hfD e.symm)
      have k08 : Kept (fun j => j = f ∨ j = D) w w8 := (((HKw.out.mono (fun j _ e => e.elim)).trans (k3'.mono (fun j _ e => .inl e))).trans (k37.mono (fun j _ e => .inr e))).trans (k78.mono (fun j _ e => .inr e))
      have hr8 : ∀ j, L j = .row i → ¬ (OneB D j) := fun j e hj => by rw [show j = D from hj, hlD] at e; cases e
      have hb8 : ∀ j, L j = .byt i → ¬ (OneB D j) := fun j e hj => by rw [show j = D from hj, hlD] at e; cases e
      have dt := ((N3.dat.kept k37 hr8 hb8).kept k78 hr8 hb8)
      have hlen : n.data.length = qs.length := N3.dat.len
      have hok := setT_ok h.ok hn v hm ht
      exact data_done (n' := setN n v (T.clock + 1)) h hB hN hok rfl rfl rfl rfl k08 (fun j hj _ => by rcases hj with e | e; exact .inl e; exact .inr (.inl e)) o8 n8 ⟨by have := dt.own; rw [hlen] at this; exact this, dt.each, dt.apart⟩ N3.data (fun j hj => .inl (N3.dat.lab j (by rw [hlen]; exact hj))) (fun j ⟨q, hq, hj⟩ => .inl (N3.dat.labs q hq j hj)))
    have HW8 := Lib.hid hw8
    clear hw8 hw7 o7 n7 k37 k78 hcl N3 hSl hlD k3' o3' hmd hus hgr htm hlf
    go_wp2
    rw [← HW8.out]
    go_ret
    exact ⟨rfl, hfin.out⟩
end Go.Proofs.YtgbakogihkdddaaGreatDoor

namespace Go.Proofs.YtgbakogihkdddaaGreatDoor
open Go.RowKit
set_option linter.unusedVariables false
set_option linter.unusedSimpArgs false
set_option maxRecDepth 20000

/-- A tree at f that a call turned into T on its way from w to W. -/
def Turn (S : Nat → Prop) (w W : World) (f : Nat) (T : FsP) : Prop := FsSt (Grow S w W) W f T ∧ Kept S w W
theorem keep_onS {S R : Nat → Prop} {a b c : World} (h : Kept S a b) (k : Kept R b c) (hs : ∀ i, i < a.heap.size → R i → S i) : Kept S a c :=
  ⟨k.os.trans h.os, k.tape.trans h.tape, k.output.trans h.output, Nat.le_trans h.size k.size, fun i hi hn => (k.block i (Nat.lt_of_lt_of_le hi h.size) (fun e => hn (hs i hi e))).trans (h.block i hi hn)⟩
theorem Turn.nil {S : Nat → Prop} {w : World} {f : Nat} {T : FsP} (h : FsSt S w f T) : Turn S w w f T := ⟨h.mono (fun k e => .inl e), Kept.refl _ _⟩
theorem Turn.kept {S : Nat → Prop} {w W W' : World} {f : Nat} {T : FsP} (h : Turn S w W f T) (hk : Kept NoB W W') : Turn S w W' f T :=
  ⟨(h.1.keptNo hk).mono (fun k e => by rcases e with e | e; exact .inl e; exact .inr ⟨e.1, Nat.lt_of_lt_of_le e.2 hk.size⟩), h.2.trans (hk.mono (fun k _ e => e.elim))⟩
theorem Turn.pre {S : Nat → Prop} {w W W' : World} {f : Nat} {T : FsP} (hk : Kept NoB w W) (h : Turn S W W' f T) : Turn S w W' f T :=
  ⟨h.1.mono (fun k e => by rcases e with e | e; exact .inl e; exact .inr ⟨Nat.le_trans hk.size e.1, e.2⟩), (hk.mono (fun k _ e => e.elim)).trans h.2⟩
theorem Turn.step {S : Nat → Prop} {w W W' : World} {f : Nat} {T T' : FsP} (h : Turn S w W f T) (h2 : Turn (Grow S w W) W W' f T') : Turn S w W' f T' :=
  ⟨h2.1.mono (fun k e => by
    have q1 := h2.2.size
    have q2 := h.2.size
    rcases e with (e | e) | e
    · exact .inl e
    · exact .inr ⟨e.1, Nat.lt_of_lt_of_le e.2 q1⟩
    · exact .inr ⟨by omega, e.2⟩), keep_onS h.2 h2.2 (fun i hi e => by rcases e with e | e; exact e; have := e.1; omega)⟩
/-- The next call, from a world with some blocks more. -/
theorem Turn.next {S : Nat → Prop} {w W V W' : World} {f : Nat} {T T' : FsP} (h : Turn S w W f T) (hk : Kept NoB W V) (h2 : Turn (Grow S w W) V W' f T') : Turn S w W' f T' := h.step (Turn.pre hk h2)
theorem Turn.ok {S : Nat → Prop} {w W : World} {f : Nat} {T : FsP} (h : Turn S w W f T) : OkT T := by
  obtain ⟨L, B, mb, h1⟩ := h.1
  exact h1.ok
theorem FsSt.okT {S : Nat → Prop} {w : World} {f : Nat} {T : FsP} (h : FsSt S w f T) : OkT T := by
  obtain ⟨L, B, mb, h1⟩ := h
  exact h1.ok
theorem grow_not {S : Nat → Prop} {w W : World} {b : Nat} (h : ¬ S b) (hb : b < w.heap.size) : ¬ Grow S w W b := fun e => by
  rcases e with e | e
  · exact h e
  · have := e.1; omega

set_option maxHeartbeats 1000000 in
theorem node_any (E : EntV) (P N : Value) (w : World) : Calls Tryz.prog 59 #[.agg (entC E P N).toArray] w fun e w' => e = .returned (.agg (nvC (nodeE E)).toArray) ∧ Kept NoB w w' := by
  obtain ⟨w1, hw1, hob, hk1⟩ := ent_boxed E P N w
  have hsz1 : w1.heap.size = w.heap.size + 1 := by rw [hw1]; simp
  obtain ⟨w2, hw2⟩ : ∃ w2, w2 = w1.alloc (.cells #[.int .i64 0, .int .i64 0, .int .i64 0, .int .i64 0, .int .i64 0, .string { data := #[] }, .int .i64 0, .int .i64 0, .int .i64 0, .int .i64 0, .int .i64 0] 27) := ⟨_, rfl⟩
  have hk2 : Kept NoB w1 w2 := by rw [hw2]; exact (Kept.refl NoB w1).alloc _
  have ho2 := hk2.obj hob id
  have c0 : w2.cell? ⟨w.heap.size, 0, none⟩ = some (.int .i64 E.kind) := by rw [obj_cell ho2]; rfl
  have c3 : w2.cell? ⟨w.heap.size, 3, none⟩ = some (.int .i64 E.mode) := by rw [obj_cell ho2]; rfl
  have c4 : w2.cell? ⟨w.heap.size, 4, none⟩ = some (.int .i64 E.user) := by rw [obj_cell ho2]; rfl
  have c5 : w2.cell? ⟨w.heap.size, 5, none⟩ = some (.int .i64 E.group) := by rw [obj_cell ho2]; rfl
  have c6 : w2.cell? ⟨w.heap.size, 6, none⟩ = some (.int .i64 E.time) := by rw [obj_cell ho2]; rfl
  have c7 : w2.cell? ⟨w.heap.size, 7, none⟩ = some (.int .i64 E.major) := by rw [obj_cell ho2]; rfl
  have c8 : w2.cell? ⟨w.heap.size, 8, none⟩ = some (.int .i64 E.minor) := by rw [obj_cell ho2]; rfl
  have HW1 := Lib.hid hw1; have HW2 := Lib.hid hw2; have HK := Lib.hid (hk1.trans hk2)
  have hsz2 : w2.heap.size = w.heap.size + 2 := by rw [hw2]; simp [hsz1]
  have HS2 := Lib.hid hsz2; have HS1 := Lib.hid hsz1
  have o2 : w2.heap[w.heap.size + 1]? = some (.cells (nvC zeroNV).toArray 27 (0, 0)) := by rw [hw2, ← hsz1]; exact heap_alloc_new _ _
  have HO := Lib.hid ho2; have HO2 := Lib.hid o2
  clear hw1 hw2 hob hk1 hk2 hsz1 ho2 hsz2 o2
  go_enter Tryz.func59, Tryz.ntmps59
  go_upto_region 1 with fail
  rw [← HW1.out, ← HW2.out]
  go_upto_region 2 with fail
  obtain ⟨V, hV⟩ : ∃ V : NodeV, V = ⟨E.kind, E.mode, E.user, E.group, E.time, ⟨#[]⟩, E.major, E.minor, 0, 0, 0⟩ := ⟨_, rfl⟩
  obtain ⟨w3, hw3⟩ : ∃ w3, w3 = w2.alloc (.cells #[.int .i64 E.kind, .int .i64 E.mode, .int .i64 E.user, .int .i64 E.group, .int .i64 E.time, .string { data := #[] }, .int .i64 E.major, .int .i64 E.minor, .int .i64 0, .int .i64 0, .int .i64 0] 27) := ⟨_, rfl⟩
  rw [← hw3]
  have hk3 : Kept NoB w2 w3 := by rw [hw3]; exact (Kept.refl NoB w2).alloc _
  obtain ⟨g, hg⟩ : ∃ g, g = w2.heap.size := ⟨_, rfl⟩
  rw [← hg]
  have ob3 : w3.heap[g]? = some (.cells (nvC V).toArray 27 (0, 0)) := by rw [hw3, hg, hV]; exact heap_alloc_new _ _
  have oe3 := hk3.obj HO.out id
  have o23 := hk3.obj HO2.out id
  have d0 : w3.cell? ⟨w.heap.size, 0, none⟩ = some (.int .i64 E.kind) := by rw [obj_cell oe3]; rfl
  have d2 : w3.cell? ⟨w.heap.size, 2, none⟩ = some (.string (strB E.link)) := by rw [obj_cell oe3]; rfl
  have hgs : g = w.heap.size + 2 := by rw [hg]; exact HS2.out
  have HK3 := Lib.hid (HK.out.trans hk3); have HB3 := Lib.hid ob3; have HZ3 := Lib.hid o23; have HVe := Lib.hid hV
  clear c0 c3 c4 c5 c6 c7 c8 hw3 hk3 hg oe3 hV HK HO HO2 HW1 HW2 HS2 HS1
  have HG := Lib.hid hgs
  clear hgs
  by_cases k3 : E.kind = 3
  · have e3 : (E.kind == 3) = true := by simpa using k3
    have e8 : (E.kind == 8) = false := by rw [k3]; rfl
    have x5 : w3.cell? ⟨g, 5, none⟩ = some (.string ⟨#[]⟩) := by rw [obj_cell ob3, HVe.out]; rfl
    have g5 := obj_free ob3 5
    obtain ⟨w4, hw4⟩ : ∃ w4, w4 = w3.setCell ⟨g, 5, none⟩ (.string (strB E.link)) := ⟨_, rfl⟩
    have ob4 : w4.heap[g]? = some (.cells (nvC (nodeE E)).toArray 27 (0, 0)) := by
      rw [hw4]
      have h0 := obj_set ob3 5 (.string (strB E.link))
      rw [h0, HVe.out]
      unfold nodeE
      rw [if_neg (by rw [k3]; decide), if_pos k3]
      rfl
    have oz4 : w4.heap[w.heap.size + 1]? = some (.cells (nvC zeroNV).toArray 27 (0, 0)) := by rw [hw4, Below.heap_setCell _ _ _ _ (by have := HG.out; dsimp only; omega)]; exact o23
    have hk4 : Kept NoB w w4 := by rw [hw4]; exact HK3.out.setCell (.inr (by have := HG.out; dsimp only; omega)) _
    have HW4 := Lib.hid hw4; have HB4 := Lib.hid ob4; have HZ4 := Lib.hid oz4; have HK4 := Lib.hid hk4
    have HN1 := Lib.hid (nv_one (nodeE E))
    clear hw4 ob4 oz4 hk4 ob3 o23 k3
    go_upto_region 7 with fail
    rw [← HW4.out]
    go_wp2_with (first | (refine load_rowN (by rfl) (.tmp 3) rfl g rfl (nodeE E) HB4.out ?_) | (refine wpList_store_row rfl 27 (.tmp 2) (.tmp 29) rfl (w.heap.size + 1) (nvC (nodeE E)).toArray rfl rfl _ _ HZ4.out infoNd rfl HN1.out ?_))
    refine bodyPost_ret (results_cell_row rfl _ _ (w.heap.size + 1) 27 (nvC (nodeE E)).toArray (0, 0) _ rfl (setRow_heap _ _ _ _ _ _ HZ4.out) Tryz.underlying27 rfl infoNd) rfl ?_
    exact ⟨rfl, HK4.out.setRow (.inr (by omega)) _⟩
  · have e3 : (E.kind == 3) = false := by simpa using k3
    by_cases k8 : E.kind = 8
    · have e8 : (E.kind == 8) = true := by simpa using k8
      have x0 : w3.cell? ⟨g, 0, none⟩ = some (.int .i64 E.kind) := by rw [obj_cell ob3, HVe.out]; rfl
      have g0 := obj_free ob3 0
      obtain ⟨w4, hw4⟩ : ∃ w4, w4 = w3.setCell ⟨g, 0, none⟩ (.int .i64 6) := ⟨_, rfl⟩
      have ob4 : w4.heap[g]? = some (.cells (nvC (nodeE E)).toArray 27 (0, 0)) := by
        rw [hw4]
        have h0 := obj_set ob3 0 (.int .i64 6)
        rw [h0, HVe.out]
        unfold nodeE
        rw [if_pos k8, if_neg k3]
        rfl
      have oz4 : w4.heap[w.heap.size + 1]? = some (.cells (nvC zeroNV).toArray 27 (0, 0)) := by rw [hw4, Below.heap_setCell _ _ _ _ (by have := HG.out; dsimp only; omega)]; exact o23
      have hk4 : Kept NoB w w4 := by rw [hw4]; exact HK3.out.setCell (.inr (by have := HG.out; dsimp only; omega)) _
      have HW4 := Lib.hid hw4; have HB4 := Lib.hid ob4; have HZ4 := Lib.hid oz4; have HK4 := Lib.hid hk4
      have HN1 := Lib.hid (nv_one (nodeE E))
      clear hw4 ob4 oz4 hk4 ob3 o23 k3 k8
      go_upto_region 7 with fail
      rw [← HW4.out]
      go_wp2_with (first | (refine load_rowN (by rfl) (.tmp 3) rfl g rfl (nodeE E) HB4.out ?_) | (refine wpList_store_row rfl 27 (.tmp 2) (.tmp 29) rfl (w.heap.size + 1) (nvC (nodeE E)).toArray rfl rfl _ _ HZ4.out infoNd rfl HN1.out ?_))
      refine bodyPost_ret (results_cell_row rfl _ _ (w.heap.size + 1) 27 (nvC (nodeE E)).toArray (0, 0) _ rfl (setRow_heap _ _ _ _ _ _ HZ4.out) Tryz.underlying27 rfl infoNd) rfl ?_
      exact ⟨rfl, HK4.out.setRow (.inr (by omega)) _⟩
    · have e8 : (E.kind == 8) = false := by simpa using k8
      have hVn : V = nodeE E := by
        rw [HVe.out]
        unfold nodeE
        rw [if_neg k8, if_neg k3]
      rw [hVn] at HB3
      have HN1 := Lib.hid (nv_one (nodeE E))
      clear ob3 o23 k3 k8
      go_wp2_with (first | (refine load_rowN (by rfl) (.tmp 3) rfl g rfl (nodeE E) HB3.out ?_) | (refine wpList_store_row rfl 27 (.tmp 2) (.tmp 29) rfl (w.heap.size + 1) (nvC (nodeE E)).toArray rfl rfl _ _ HZ3.out infoNd rfl HN1.out ?_))
      refine bodyPost_ret (results_cell_row rfl _ _ (w.heap.size + 1) 27 (nvC (nodeE E)).toArray (0, 0) _ rfl (setRow_heap _ _ _ _ _ _ HZ3.out) Tryz.underlying27 rfl infoNd) rfl ?_
      exact ⟨rfl, HK3.out.setRow (.inr (by omega)) _⟩
end Go.Proofs.YtgbakogihkdddaaGreatDoor

namespace Go.Proofs.YtgbakogihkdddaaGreatDoor
open Go.RowKit
set_option linter.unusedVariables false
set_option linter.unusedSimpArgs false
set_option maxRecDepth 20000

theorem infoPl : (Tryz.prog.info? 81).map (·.size) = some 6 := by kernel_rfl
/-- A place's cells. -/
def spC (f : Option Nat) (P : SpotV) : List Value := [ptrV f, .int .i64 P.dir, .string (strB P.last), .int .i64 P.ino, .bool P.there, .bool P.isDir]
def noSpot : SpotV := ⟨0, [], 0, false, false⟩
theorem sp_one (f : Option Nat) (P : SpotV) : (spC f P).toArray.all (·.oneCell') = true := by simp [spC, ptrV, Value.oneCell']
/-- What may be where an entry goes. -/
structure OkS (T : FsP) (P : SpotV) : Prop where
  dir : okI P.dir
  last : P.last.length ≤ 255
  ino : okI P.ino

set_option maxHeartbeats 2000000 in
theorem clear_any {S : Nat → Prop} {w : World} {f p : Nat} {T : FsP} {P : SpotV} (h : FsSt S w f T) (hp : w.heap[p]? = some (.cells (spC (some f) P).toArray 81 (0, 0))) (hP : OkS T P) (hclk : T.clock + 1 ≤ 4611686018427387904) :
    Calls Tryz.prog 60 #[.pointer (some ⟨p, 0, none⟩)] w fun e w' => e = .returned (.int .i64 (clearP T P).2) ∧ Turn S w w' f (clearP T P).1 := by
  have c0 : w.cell? ⟨p, 0, none⟩ = some (.pointer (some ⟨f, 0, none⟩)) := by rw [obj_cell hp]; rfl
  have c1 : w.cell? ⟨p, 1, none⟩ = some (.int .i64 P.dir) := by rw [obj_cell hp]; rfl
  have c2 : w.cell? ⟨p, 2, none⟩ = some (.string (strB P.last)) := by rw [obj_cell hp]; rfl
  have c4 : w.cell? ⟨p, 4, none⟩ = some (.bool P.there) := by rw [obj_cell hp]; rfl
  have c5 : w.cell? ⟨p, 5, none⟩ = some (.bool P.isDir) := by rw [obj_cell hp]; rfl
  have HR := Lib.hid (remove_any (h.keptNo (Kept.refl NoB w).drew) P.dir hP.dir P.last (by have := hP.last; omega) hclk)
  have H := Lib.hid h
  have hB : clearP T P = if P.there = false then (T, 0) else if P.isDir = true then (T, 13) else removeP T P.dir P.last := rfl
  obtain ⟨C, hC⟩ : ∃ C, C = clearP T P := ⟨_, rfl⟩
  rw [← hC] at hB ⊢
  obtain ⟨th, hth⟩ : ∃ b, b = P.there := ⟨_, rfl⟩
  obtain ⟨di, hdi⟩ : ∃ b, b = P.isDir := ⟨_, rfl⟩
  rw [← hth, ← hdi] at hB
  rw [← hth] at c4
  rw [← hdi] at c5
  have HB := Lib.hid hB
  clear h hp hP hC hth hdi hB
  go_enter Tryz.func60, Tryz.ntmps60
  cases th
  · have HF : Hid (C = (T, 0)) := Lib.hid HB.out
    go_wp2
    go_ret
    exact ⟨by rw [HF.out]; rfl, by rw [HF.out]; exact Turn.nil H.out⟩
  cases di
  · have HF : Hid (C = removeP T P.dir P.last) := Lib.hid HB.out
    go_upto_region 5 with fail
    go_region_law (first
      | (go_simp; go_at_call 84; (with_reducible refine HR.out.mono ?_); rintro e w4 ⟨rfl, s4⟩))
    all_goals go_simp
    all_goals go_wp2
    all_goals go_ret
    all_goals exact ⟨by rw [HF.out]; rfl, by rw [HF.out]; exact Turn.pre (Kept.refl NoB w).drew s4⟩
  · have HF : Hid (C = (T, 13)) := Lib.hid HB.out
    go_wp2
    go_ret
    exact ⟨by rw [HF.out]; rfl, by rw [HF.out]; exact Turn.nil H.out⟩

/-- An entry's numbers and texts. -/
structure EntI (E : EntV) : Prop where
  name : E.name.length ≤ 1000000000
  link : E.link.length ≤ 1000000000
  time : okI E.time
  size : okI E.size
set_option maxHeartbeats 2000000 in
theorem setTop_any {S : Nat → Prop} {w : World} {f : Nat} {T : FsP} (h : FsSt S w f T) (dir : Int) (hdir : okI dir) (E : EntV) (hE : EntI E) (P N : Value) (hclk : T.clock + 1 ≤ 4611686018427387904) :
    Calls Tryz.prog 33 #[.pointer (some ⟨f, 0, none⟩), .int .i64 dir, .agg (entC E P N).toArray] w fun e w' => e = .returned (.int .i64 (topP T dir E).2) ∧ Turn S w w' f (topP T dir E).1 := by
  obtain ⟨w1, hw1, hob, hk1⟩ := ent_boxed E P N w
  have c0 : w1.cell? ⟨w.heap.size, 0, none⟩ = some (.int .i64 E.kind) := by rw [obj_cell hob]; rfl
  have hB : topP T dir E = if dirK E.kind = true then (if (statP T dir).2 = 0 then (if (statP T dir).1.kind = 6 then setP T dir (nodeE E) else (T, 12)) else (T, (statP T dir).2)) else (T, 9) := rfl
  obtain ⟨C, hC⟩ : ∃ C, C = topP T dir E := ⟨_, rfl⟩
  rw [← hC] at hB ⊢
  have HSt := Lib.hid (stat_any (h.keptNo hk1) dir hdir)
  obtain ⟨v, hv⟩ : ∃ v, v = (statP T dir).1 := ⟨_, rfl⟩
  obtain ⟨se, hse⟩ : ∃ e, e = (statP T dir).2 := ⟨_, rfl⟩
  rw [← hv, ← hse] at hB HSt
  have H := Lib.hid h; have HW := Lib.hid hw1; have HK := Lib.hid hk1; have HO := Lib.hid hob; have HB := Lib.hid hB
  have HNode := Lib.hid (fun W => node_any E P N W)
  have HSet : Hid (∀ W, Kept NoB w W → Calls Tryz.prog 58 #[.pointer (some ⟨f, 0, none⟩), .int .i64 dir, .agg (nvC (nodeE E)).toArray] W fun e w' => e = .returned (.int .i64 (setP T dir (nodeE E)).2) ∧ Turn S W w' f (setP T dir (nodeE E)).1) := Lib.hid (fun W hW => set_any (h.keptNo hW) dir hdir (nodeE E) hE.time hclk)
  have HOne := Lib.hid (nv_one v)
  obtain ⟨kd, hkd⟩ : ∃ k, k = E.kind := ⟨_, rfl⟩
  rw [← hkd] at c0
  have HKd := Lib.hid hkd
  clear h hw1 hob hk1 hB hC hv hse hkd
  go_enter Tryz.func33, Tryz.ntmps33
  go_upto_region 1 with fail
  rw [← HW.out]
  by_cases hd : kd = 6 ∨ kd = 8
  rotate_left
  · have e6 : (kd != 6) = true := by simp; omega
    have e8 : (kd != 8) = true := by simp; omega
    have HF : Hid (C = (T, 9)) := Lib.hid (by rw [HB.out, if_neg]; rw [← HKd.out]; unfold dirK; simp; omega)
    go_wp2
    go_ret
    exact ⟨by rw [HF.out]; rfl, by rw [HF.out]; exact (Turn.nil H.out).kept HK.out⟩
  have HB2 : Hid (C = if se = 0 then (if v.kind = 6 then setP T dir (nodeE E) else (T, 12)) else (T, se)) := Lib.hid (by
    rw [HB.out, if_pos]; rw [← HKd.out]; unfold dirK; simp; omega)
  clear HB HKd
  rcases hd with hd | hd
  · have e6 : (kd != 6) = false := by rw [hd]; rfl
    go_upto_region 3 with fail
    go_upto_region 4 with (first | (go_at_call 15; refine HSt.out.mono ?_; rintro e w2 ⟨rfl, hk2⟩) | (refine wpList_store_row rfl 27 (.tmp 7) (.tmp 21) rfl w2.heap.size (nvC v).toArray rfl rfl _ _ (heap_alloc_new _ _) infoNd rfl HOne.out ?_))
    obtain ⟨w3, hw3⟩ : ∃ w3, w3 = (w2.alloc (.cells #[.int .i64 0, .int .i64 0, .int .i64 0, .int .i64 0, .int .i64 0, .string { data := #[] }, .int .i64 0, .int .i64 0, .int .i64 0, .int .i64 0, .int .i64 0] 27)).setRow w2.heap.size (nvC v).toArray := ⟨_, rfl⟩
    rw [← hw3]
    have hk3 : Kept NoB w2 w3 := by rw [hw3]; exact ((Kept.refl NoB w2).alloc _).setRow (.inr (Nat.le_refl _)) _
    have ob3 : w3.heap[w2.heap.size]? = some (.cells (nvC v).toArray 27 (0, 0)) := by rw [hw3]; exact setRow_heap _ _ _ _ _ _ (heap_alloc_new _ _)
    have d0 : w3.cell? ⟨w2.heap.size, 0, none⟩ = some (.int .i64 v.kind) := by rw [obj_cell ob3]; rfl
    obtain ⟨g, hg⟩ : ∃ g, g = w2.heap.size := ⟨_, rfl⟩
    obtain ⟨vk, hvk⟩ : ∃ k, k = v.kind := ⟨_, rfl⟩
    rw [← hg, ← hvk] at d0
    rw [← hg]
    have HK3 := Lib.hid ((HK.out.trans hk2).trans hk3)
    have HO3 := Lib.hid ((hk2.trans hk3).obj HO.out id)
    have HVk := Lib.hid hvk
    clear hw3 hk3 ob3 hk2 hg hvk c0
    by_cases hs : se = 0
    rotate_left
    · have hs2 : (se != 0) = true := by simpa using hs
      have HF : Hid (C = (T, se)) := Lib.hid (by rw [HB2.out, if_neg hs])
      go_wp2
      go_ret
      exact ⟨by rw [HF.out]; rfl, by rw [HF.out]; exact (Turn.nil H.out).kept HK3.out⟩
    subst hs
    by_cases h6 : vk = 6
    rotate_left
    · have h62 : (vk != 6) = true := by simpa using h6
      have HF : Hid (C = (T, 12)) := Lib.hid (by rw [HB2.out, if_pos rfl, if_neg (by rw [← HVk.out]; exact h6)])
      go_wp2
      go_ret
      exact ⟨by rw [HF.out]; rfl, by rw [HF.out]; exact (Turn.nil H.out).kept HK3.out⟩
    have h62 : (vk != 6) = false := by simpa using h6
    have HF : Hid (C = setP T dir (nodeE E)) := Lib.hid (by rw [HB2.out, if_pos rfl, if_pos (by rw [← HVk.out]; exact h6)])
    clear HB2 h6
    go_wp2_with (first | (refine load_rowE (by rfl) (.tmp 5) rfl w.heap.size rfl E P N HO3.out ?_) | (go_at_call 59; refine (HNode.out _).mono ?_; rintro e w4 ⟨rfl, hk4⟩; replace hk4 := HK3.out.trans hk4) | (go_at_call 58; refine (HSet.out _ hk4).mono ?_; rintro e w5 ⟨rfl, ht5⟩))
    go_ret
    exact ⟨by rw [HF.out]; rfl, by rw [HF.out]; exact Turn.pre hk4 ht5⟩
  · have e6 : (kd != 6) = true := by rw [hd]; rfl
    have e8 : (kd != 8) = false := by rw [hd]; rfl
    go_upto_region 3 with fail
    go_upto_region 4 with (first | (go_at_call 15; refine HSt.out.mono ?_; rintro e w2 ⟨rfl, hk2⟩) | (refine wpList_store_row rfl 27 (.tmp 7) (.tmp 21) rfl w2.heap.size (nvC v).toArray rfl rfl _ _ (heap_alloc_new _ _) infoNd rfl HOne.out ?_))
    obtain ⟨w3, hw3⟩ : ∃ w3, w3 = (w2.alloc (.cells #[.int .i64 0, .int .i64 0, .int .i64 0, .int .i64 0, .int .i64 0, .string { data := #[] }, .int .i64 0, .int .i64 0, .int .i64 0, .int .i64 0, .int .i64 0] 27)).setRow w2.heap.size (nvC v).toArray := ⟨_, rfl⟩
    rw [← hw3]
    have hk3 : Kept NoB w2 w3 := by rw [hw3]; exact ((Kept.refl NoB w2).alloc _).setRow (.inr (Nat.le_refl _)) _
    have ob3 : w3.heap[w2.heap.size]? = some (.cells (nvC v).toArray 27 (0, 0)) := by rw [hw3]; exact setRow_heap _ _ _ _ _ _ (heap_alloc_new _ _)
    have d0 : w3.cell? ⟨w2.heap.size, 0, none⟩ = some (.int .i64 v.kind) := by rw [obj_cell ob3]; rfl
    obtain ⟨g, hg⟩ : ∃ g, g = w2.heap.size := ⟨_, rfl⟩
    obtain ⟨vk, hvk⟩ : ∃ k, k = v.kind := ⟨_, rfl⟩
    rw [← hg, ← hvk] at d0
    rw [← hg]
    have HK3 := Lib.hid ((HK.out.trans hk2).trans hk3)
    have HO3 := Lib.hid ((hk2.trans hk3).obj HO.out id)
    have HVk := Lib.hid hvk
    clear hw3 hk3 ob3 hk2 hg hvk c0
    by_cases hs : se = 0
    rotate_left
    · have hs2 : (se != 0) = true := by simpa using hs
      have HF : Hid (C = (T, se)) := Lib.hid (by rw [HB2.out, if_neg hs])
      go_wp2
      go_ret
      exact ⟨by rw [HF.out]; rfl, by rw [HF.out]; exact (Turn.nil H.out).kept HK3.out⟩
    subst hs
    by_cases h6 : vk = 6
    rotate_left
    · have h62 : (vk != 6) = true := by simpa using h6
      have HF : Hid (C = (T, 12)) := Lib.hid (by rw [HB2.out, if_pos rfl, if_neg (by rw [← HVk.out]; exact h6)])
      go_wp2
      go_ret
      exact ⟨by rw [HF.out]; rfl, by rw [HF.out]; exact (Turn.nil H.out).kept HK3.out⟩
    have h62 : (vk != 6) = false := by simpa using h6
    have HF : Hid (C = setP T dir (nodeE E)) := Lib.hid (by rw [HB2.out, if_pos rfl, if_pos (by rw [← HVk.out]; exact h6)])
    clear HB2 h6
    go_wp2_with (first | (refine load_rowE (by rfl) (.tmp 5) rfl w.heap.size rfl E P N HO3.out ?_) | (go_at_call 59; refine (HNode.out _).mono ?_; rintro e w4 ⟨rfl, hk4⟩; replace hk4 := HK3.out.trans hk4) | (go_at_call 58; refine (HSet.out _ hk4).mono ?_; rintro e w5 ⟨rfl, ht5⟩))
    go_ret
    exact ⟨by rw [HF.out]; rfl, by rw [HF.out]; exact Turn.pre hk4 ht5⟩
end Go.Proofs.YtgbakogihkdddaaGreatDoor
