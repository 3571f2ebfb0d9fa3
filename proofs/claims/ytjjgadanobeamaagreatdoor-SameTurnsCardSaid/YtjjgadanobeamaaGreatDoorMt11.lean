/-
  A tree of files in memory: what a node may be: links and devices.
-/
import Derived.Test.YtjjgadanobeamaaGreatDoorMt10
namespace Go.Proofs.YtjjgadanobeamaaGreatDoor
open Go.RowKit
set_option linter.unusedVariables false
set_option linter.unusedSimpArgs false
set_option maxRecDepth 20000

set_option maxHeartbeats 4000000 in
theorem mayBe_3 (v : NodeV) (w : World) (hk : v.kind = 3) : Calls Tryz.prog 17 #[.agg (nvC v).toArray] w fun e w' => e = .returned (.bool (mayB v)) ∧ Kept NoB w w' := by
  obtain ⟨w1, hw1⟩ : ∃ w1, w1 = w.alloc (.cells (nvC v).toArray 25) := ⟨_, rfl⟩
  have hob : w1.heap[w.heap.size]? = some (.cells (nvC v).toArray 25 (0, 0)) := by rw [hw1]; exact heap_alloc_new _ _
  have c0 : w1.cell? ⟨w.heap.size, 0, none⟩ = some (.int .i64 3) := by rw [obj_cell hob, ← hk]; rfl
  have c5 : w1.cell? ⟨w.heap.size, 5, none⟩ = some (.string v.tgt) := by rw [obj_cell hob]; rfl
  have c6 : w1.cell? ⟨w.heap.size, 6, none⟩ = some (.int .i64 v.major) := by rw [obj_cell hob]; rfl
  have c7 : w1.cell? ⟨w.heap.size, 7, none⟩ = some (.int .i64 v.minor) := by rw [obj_cell hob]; rfl
  have d8 : ∀ o, (w1.alloc o).cell? ⟨w.heap.size, 8, none⟩ = some (.int .i64 v.size) := fun o => ((Kept.refl NoB w1).alloc o).cell (by rw [obj_cell hob]; rfl)
  have d9 : ∀ o, (w1.alloc o).cell? ⟨w.heap.size, 9, none⟩ = some (.int .i64 v.links) := fun o => ((Kept.refl NoB w1).alloc o).cell (by rw [obj_cell hob]; rfl)
  have d10 : ∀ o, (w1.alloc o).cell? ⟨w.heap.size, 10, none⟩ = some (.int .i64 v.change) := fun o => ((Kept.refl NoB w1).alloc o).cell (by rw [obj_cell hob]; rfl)
  have HW := Lib.hid hw1; have HO := Lib.hid hob
  have HK : Hid (Kept NoB w w1) := Lib.hid (by rw [hw1]; exact (Kept.refl NoB w).alloc _)
  have HKa : Hid (∀ o, Kept NoB w (w1.alloc o)) := Lib.hid (fun o => HK.out.alloc o)
  have HS := Lib.hid (mayBeSet_any v)
  have HM1 := Lib.hid (within_any v.major 1048575); have HM2 := Lib.hid (within_any v.minor 1048575)
  have HC := Lib.hid (Tryz.strings_Contains_one v.tgt 0)
  have HB : Hid (mayB v = ((!v.tgt.toList.isEmpty && decide (v.tgt.size ≤ 1024) && !decide (0 ≤ Lib.indexByte v.tgt.data.toList 0)) && (decide (v.major = 0) && decide (v.minor = 0)) && setB v && decide (v.size = 0) && decide (v.links = 0) && decide (v.change = 0))) := Lib.hid (by
    unfold mayB setB; rw [hk]; rfl)
  clear hob hw1 hk
  obtain ⟨st, hst⟩ : ∃ st, st = setB v := ⟨_, rfl⟩
  rw [← hst] at HS HB
  clear hst
  obtain ⟨nc, hnc⟩ : ∃ nc, nc = decide (0 ≤ Lib.indexByte v.tgt.data.toList 0) := ⟨_, rfl⟩
  rw [← hnc] at HB HC
  clear hnc
  go_enter Tryz.func17, Tryz.ntmps17
  go_upto_region 1 with fail
  rw [← HW.out]
  rcases Classical.em (v.tgt.toList ≠ []) with t1 | t1
  rotate_left
  · have t3 : v.tgt.toList = [] := Classical.not_not.1 t1
    have t2 : v.tgt.toList.isEmpty = true := by simpa using t3
    have HF : Hid (mayB v = false) := Lib.hid (by rw [HB.out]; rw [t2]; simp)
    clear HB
    go_wp2_with (first | (refine load_rowN (by rfl) (.tmp 1) rfl w.heap.size rfl v HO.out ?_) | (go_at_call 29; refine (HS.out _).mono ?_; rintro e w2 ⟨rfl, rfl⟩) | (go_at_call 28; first | (with_reducible refine (HM1.out _).mono ?_; rintro e w2 ⟨rfl, rfl⟩) | (with_reducible refine (HM2.out _).mono ?_; rintro e w2 ⟨rfl, rfl⟩)) | (go_at_call 27; refine (HC.out _).mono ?_; rintro e w2 ⟨rfl, rfl⟩) | fail)
    all_goals go_ret
    all_goals exact ⟨by rw [HF.out]; rfl, by first | exact HK.out | exact HKa.out _⟩
  have t2 : v.tgt.toList.isEmpty = false := by simpa using t1
  rcases Classical.em ((v.tgt.size : Int) ≤ 1024) with t4 | t4
  rotate_left
  · have HT5 : Hid (decide (v.tgt.size ≤ 1024) = false) := Lib.hid (decide_eq_false (by omega))
    have HF : Hid (mayB v = false) := Lib.hid (by rw [HB.out]; rw [t2]; rw [HT5.out]; simp)
    clear HB
    go_wp2_with (first | (refine load_rowN (by rfl) (.tmp 1) rfl w.heap.size rfl v HO.out ?_) | (go_at_call 29; refine (HS.out _).mono ?_; rintro e w2 ⟨rfl, rfl⟩) | (go_at_call 28; first | (with_reducible refine (HM1.out _).mono ?_; rintro e w2 ⟨rfl, rfl⟩) | (with_reducible refine (HM2.out _).mono ?_; rintro e w2 ⟨rfl, rfl⟩)) | (go_at_call 27; refine (HC.out _).mono ?_; rintro e w2 ⟨rfl, rfl⟩) | fail)
    all_goals go_ret
    all_goals exact ⟨by rw [HF.out]; rfl, by first | exact HK.out | exact HKa.out _⟩
  have HT5 : Hid (decide (v.tgt.size ≤ 1024) = true) := Lib.hid (decide_eq_true (by omega))
  cases nc
  rotate_left
  · have _u := 0
    have HF : Hid (mayB v = false) := Lib.hid (by rw [HB.out]; rw [t2]; rw [HT5.out]; simp)
    clear HB
    go_wp2_with (first | (refine load_rowN (by rfl) (.tmp 1) rfl w.heap.size rfl v HO.out ?_) | (go_at_call 29; refine (HS.out _).mono ?_; rintro e w2 ⟨rfl, rfl⟩) | (go_at_call 28; first | (with_reducible refine (HM1.out _).mono ?_; rintro e w2 ⟨rfl, rfl⟩) | (with_reducible refine (HM2.out _).mono ?_; rintro e w2 ⟨rfl, rfl⟩)) | (go_at_call 27; refine (HC.out _).mono ?_; rintro e w2 ⟨rfl, rfl⟩) | fail)
    all_goals go_ret
    all_goals exact ⟨by rw [HF.out]; rfl, by first | exact HK.out | exact HKa.out _⟩
  rcases Classical.em (v.major = 0) with j1 | j1
  rotate_left
  · have j2 : (v.major == 0) = false := by simpa using j1
    have HJ : Hid (decide (v.major = 0) = false) := Lib.hid (decide_eq_false j1)
    have HF : Hid (mayB v = false) := Lib.hid (by rw [HB.out]; rw [t2]; rw [HT5.out]; rw [HJ.out]; simp)
    clear HB
    go_wp2_with (first | (refine load_rowN (by rfl) (.tmp 1) rfl w.heap.size rfl v HO.out ?_) | (go_at_call 29; refine (HS.out _).mono ?_; rintro e w2 ⟨rfl, rfl⟩) | (go_at_call 28; first | (with_reducible refine (HM1.out _).mono ?_; rintro e w2 ⟨rfl, rfl⟩) | (with_reducible refine (HM2.out _).mono ?_; rintro e w2 ⟨rfl, rfl⟩)) | (go_at_call 27; refine (HC.out _).mono ?_; rintro e w2 ⟨rfl, rfl⟩) | fail)
    all_goals go_ret
    all_goals exact ⟨by rw [HF.out]; rfl, by first | exact HK.out | exact HKa.out _⟩
  have HJ : Hid (decide (v.major = 0) = true) := Lib.hid (decide_eq_true j1)
  rw [j1] at c6
  have HJ1 := Lib.hid j1
  clear j1
  rcases Classical.em (v.minor = 0) with n1 | n1
  rotate_left
  · have n2 : (v.minor == 0) = false := by simpa using n1
    have HN : Hid (decide (v.minor = 0) = false) := Lib.hid (decide_eq_false n1)
    have HF : Hid (mayB v = false) := Lib.hid (by rw [HB.out]; rw [t2]; rw [HT5.out]; rw [HJ.out]; rw [HN.out]; simp)
    clear HB
    go_wp2_with (first | (refine load_rowN (by rfl) (.tmp 1) rfl w.heap.size rfl v HO.out ?_) | (go_at_call 29; refine (HS.out _).mono ?_; rintro e w2 ⟨rfl, rfl⟩) | (go_at_call 28; first | (with_reducible refine (HM1.out _).mono ?_; rintro e w2 ⟨rfl, rfl⟩) | (with_reducible refine (HM2.out _).mono ?_; rintro e w2 ⟨rfl, rfl⟩)) | (go_at_call 27; refine (HC.out _).mono ?_; rintro e w2 ⟨rfl, rfl⟩) | fail)
    all_goals go_ret
    all_goals exact ⟨by rw [HF.out]; rfl, by first | exact HK.out | exact HKa.out _⟩
  have HN : Hid (decide (v.minor = 0) = true) := Lib.hid (decide_eq_true n1)
  rw [n1] at c7
  have HN1 := Lib.hid n1
  clear n1
  cases st
  · have _u := 0
    have HF : Hid (mayB v = false) := Lib.hid (by rw [HB.out]; rw [t2]; rw [HT5.out]; rw [HJ.out]; rw [HN.out]; simp)
    clear HB
    go_wp2_with (first | (refine load_rowN (by rfl) (.tmp 1) rfl w.heap.size rfl v HO.out ?_) | (go_at_call 29; refine (HS.out _).mono ?_; rintro e w2 ⟨rfl, rfl⟩) | (go_at_call 28; first | (with_reducible refine (HM1.out _).mono ?_; rintro e w2 ⟨rfl, rfl⟩) | (with_reducible refine (HM2.out _).mono ?_; rintro e w2 ⟨rfl, rfl⟩)) | (go_at_call 27; refine (HC.out _).mono ?_; rintro e w2 ⟨rfl, rfl⟩) | fail)
    all_goals go_ret
    all_goals exact ⟨by rw [HF.out]; rfl, by first | exact HK.out | exact HKa.out _⟩
  rcases Classical.em (v.size = 0) with s1 | s1
  rotate_left
  · have s2 : (v.size == 0) = false := by simpa using s1
    have Hs3 : Hid (decide (v.size = 0) = false) := Lib.hid (decide_eq_false s1)
    have HF : Hid (mayB v = false) := Lib.hid (by rw [HB.out]; rw [t2]; rw [HT5.out]; rw [HJ.out]; rw [HN.out]; rw [Hs3.out]; simp)
    clear HB
    go_wp2_with (first | (refine load_rowN (by rfl) (.tmp 1) rfl w.heap.size rfl v HO.out ?_) | (go_at_call 29; refine (HS.out _).mono ?_; rintro e w2 ⟨rfl, rfl⟩) | (go_at_call 28; first | (with_reducible refine (HM1.out _).mono ?_; rintro e w2 ⟨rfl, rfl⟩) | (with_reducible refine (HM2.out _).mono ?_; rintro e w2 ⟨rfl, rfl⟩)) | (go_at_call 27; refine (HC.out _).mono ?_; rintro e w2 ⟨rfl, rfl⟩) | fail)
    all_goals go_ret
    all_goals exact ⟨by rw [HF.out]; rfl, by first | exact HK.out | exact HKa.out _⟩
  have Hs3 : Hid (decide (v.size = 0) = true) := Lib.hid (decide_eq_true s1)
  rw [s1] at d8
  have Hs4 := Lib.hid s1
  clear s1
  rcases Classical.em (v.links = 0) with l1 | l1
  rotate_left
  · have l2 : (v.links == 0) = false := by simpa using l1
    have Hl3 : Hid (decide (v.links = 0) = false) := Lib.hid (decide_eq_false l1)
    have HF : Hid (mayB v = false) := Lib.hid (by rw [HB.out]; rw [t2]; rw [HT5.out]; rw [HJ.out]; rw [HN.out]; rw [Hs3.out]; rw [Hl3.out]; simp)
    clear HB
    go_wp2_with (first | (refine load_rowN (by rfl) (.tmp 1) rfl w.heap.size rfl v HO.out ?_) | (go_at_call 29; refine (HS.out _).mono ?_; rintro e w2 ⟨rfl, rfl⟩) | (go_at_call 28; first | (with_reducible refine (HM1.out _).mono ?_; rintro e w2 ⟨rfl, rfl⟩) | (with_reducible refine (HM2.out _).mono ?_; rintro e w2 ⟨rfl, rfl⟩)) | (go_at_call 27; refine (HC.out _).mono ?_; rintro e w2 ⟨rfl, rfl⟩) | fail)
    all_goals go_ret
    all_goals exact ⟨by rw [HF.out]; rfl, by first | exact HK.out | exact HKa.out _⟩
  have Hl3 : Hid (decide (v.links = 0) = true) := Lib.hid (decide_eq_true l1)
  rw [l1] at d9
  have Hl4 := Lib.hid l1
  clear l1
  rcases Classical.em (v.change = 0) with h1 | h1
  rotate_left
  · have h2 : (v.change == 0) = false := by simpa using h1
    have Hh3 : Hid (decide (v.change = 0) = false) := Lib.hid (decide_eq_false h1)
    have HF : Hid (mayB v = false) := Lib.hid (by rw [HB.out]; rw [t2]; rw [HT5.out]; rw [HJ.out]; rw [HN.out]; rw [Hs3.out]; rw [Hl3.out]; rw [Hh3.out]; simp)
    clear HB
    go_wp2_with (first | (refine load_rowN (by rfl) (.tmp 1) rfl w.heap.size rfl v HO.out ?_) | (go_at_call 29; refine (HS.out _).mono ?_; rintro e w2 ⟨rfl, rfl⟩) | (go_at_call 28; first | (with_reducible refine (HM1.out _).mono ?_; rintro e w2 ⟨rfl, rfl⟩) | (with_reducible refine (HM2.out _).mono ?_; rintro e w2 ⟨rfl, rfl⟩)) | (go_at_call 27; refine (HC.out _).mono ?_; rintro e w2 ⟨rfl, rfl⟩) | fail)
    all_goals go_ret
    all_goals exact ⟨by rw [HF.out]; rfl, by first | exact HK.out | exact HKa.out _⟩
  have Hh3 : Hid (decide (v.change = 0) = true) := Lib.hid (decide_eq_true h1)
  rw [h1] at d10
  have Hh4 := Lib.hid h1
  clear h1
  have HF : Hid (mayB v = true) := Lib.hid (by rw [HB.out]; rw [t2]; rw [HT5.out]; rw [HJ.out]; rw [HN.out]; rw [Hs3.out]; rw [Hl3.out]; rw [Hh3.out]; simp)
  clear HB
  go_wp2_with (first | (refine load_rowN (by rfl) (.tmp 1) rfl w.heap.size rfl v HO.out ?_) | (go_at_call 29; refine (HS.out _).mono ?_; rintro e w2 ⟨rfl, rfl⟩) | (go_at_call 28; first | (with_reducible refine (HM1.out _).mono ?_; rintro e w2 ⟨rfl, rfl⟩) | (with_reducible refine (HM2.out _).mono ?_; rintro e w2 ⟨rfl, rfl⟩)) | (go_at_call 27; refine (HC.out _).mono ?_; rintro e w2 ⟨rfl, rfl⟩) | fail)
  all_goals go_ret
  all_goals exact ⟨by rw [HF.out]; rfl, by first | exact HK.out | exact HKa.out _⟩
set_option maxHeartbeats 4000000 in
theorem mayBe_4 (v : NodeV) (w : World) (hk : v.kind = 4) : Calls Tryz.prog 17 #[.agg (nvC v).toArray] w fun e w' => e = .returned (.bool (mayB v)) ∧ Kept NoB w w' := by
  obtain ⟨w1, hw1⟩ : ∃ w1, w1 = w.alloc (.cells (nvC v).toArray 25) := ⟨_, rfl⟩
  have hob : w1.heap[w.heap.size]? = some (.cells (nvC v).toArray 25 (0, 0)) := by rw [hw1]; exact heap_alloc_new _ _
  have c0 : w1.cell? ⟨w.heap.size, 0, none⟩ = some (.int .i64 4) := by rw [obj_cell hob, ← hk]; rfl
  have c5 : w1.cell? ⟨w.heap.size, 5, none⟩ = some (.string v.tgt) := by rw [obj_cell hob]; rfl
  have c6 : w1.cell? ⟨w.heap.size, 6, none⟩ = some (.int .i64 v.major) := by rw [obj_cell hob]; rfl
  have c7 : w1.cell? ⟨w.heap.size, 7, none⟩ = some (.int .i64 v.minor) := by rw [obj_cell hob]; rfl
  have d8 : ∀ o, (w1.alloc o).cell? ⟨w.heap.size, 8, none⟩ = some (.int .i64 v.size) := fun o => ((Kept.refl NoB w1).alloc o).cell (by rw [obj_cell hob]; rfl)
  have d9 : ∀ o, (w1.alloc o).cell? ⟨w.heap.size, 9, none⟩ = some (.int .i64 v.links) := fun o => ((Kept.refl NoB w1).alloc o).cell (by rw [obj_cell hob]; rfl)
  have d10 : ∀ o, (w1.alloc o).cell? ⟨w.heap.size, 10, none⟩ = some (.int .i64 v.change) := fun o => ((Kept.refl NoB w1).alloc o).cell (by rw [obj_cell hob]; rfl)
  have HW := Lib.hid hw1; have HO := Lib.hid hob
  have HK : Hid (Kept NoB w w1) := Lib.hid (by rw [hw1]; exact (Kept.refl NoB w).alloc _)
  have HKa : Hid (∀ o, Kept NoB w (w1.alloc o)) := Lib.hid (fun o => HK.out.alloc o)
  have HS := Lib.hid (mayBeSet_any v)
  have HM1 := Lib.hid (within_any v.major 1048575); have HM2 := Lib.hid (within_any v.minor 1048575)
  have HC := Lib.hid (Tryz.strings_Contains_one v.tgt 0)
  have HB : Hid (mayB v = (v.tgt.toList.isEmpty && (decide (0 ≤ v.major) && decide (v.major ≤ 1048575) && (decide (0 ≤ v.minor) && decide (v.minor ≤ 1048575))) && setB v && decide (v.size = 0) && decide (v.links = 0) && decide (v.change = 0))) := Lib.hid (by
    unfold mayB setB; rw [hk]; rfl)
  clear hob hw1 hk
  obtain ⟨st, hst⟩ : ∃ st, st = setB v := ⟨_, rfl⟩
  rw [← hst] at HS HB
  clear hst
  obtain ⟨m1, hm1⟩ : ∃ m1, m1 = (decide (0 ≤ v.major) && decide (v.major ≤ 1048575)) := ⟨_, rfl⟩
  obtain ⟨m2, hm2⟩ : ∃ m2, m2 = (decide (0 ≤ v.minor) && decide (v.minor ≤ 1048575)) := ⟨_, rfl⟩
  rw [← hm1] at HB HM1
  rw [← hm2] at HB HM2
  clear hm1 hm2
  go_enter Tryz.func17, Tryz.ntmps17
  go_upto_region 1 with fail
  rw [← HW.out]
  obtain ⟨z, hz⟩ : ∃ z, (v.major == 0) = z := ⟨_, rfl⟩
  cases m1
  · rcases Classical.em (v.tgt.toList = []) with t1 | t1
    · have t2 : v.tgt.toList.isEmpty = true := by simpa using t1
      have HF : Hid (mayB v = false) := Lib.hid (by rw [HB.out]; rw [t2]; simp)
      clear HB
      go_wp2_with (first | (refine load_rowN (by rfl) (.tmp 1) rfl w.heap.size rfl v HO.out ?_) | (go_at_call 29; refine (HS.out _).mono ?_; rintro e w2 ⟨rfl, rfl⟩) | (go_at_call 28; first | (with_reducible refine (HM1.out _).mono ?_; rintro e w2 ⟨rfl, rfl⟩) | (with_reducible refine (HM2.out _).mono ?_; rintro e w2 ⟨rfl, rfl⟩)) | (go_at_call 27; refine (HC.out _).mono ?_; rintro e w2 ⟨rfl, rfl⟩) | fail)
      all_goals go_ret
      all_goals exact ⟨by rw [HF.out]; rfl, by first | exact HK.out | exact HKa.out _⟩
    · have t2 : v.tgt.toList.isEmpty = false := by simpa using t1
      have HF : Hid (mayB v = false) := Lib.hid (by rw [HB.out]; rw [t2]; simp)
      clear HB
      go_wp2_with (first | (refine load_rowN (by rfl) (.tmp 1) rfl w.heap.size rfl v HO.out ?_) | (go_at_call 29; refine (HS.out _).mono ?_; rintro e w2 ⟨rfl, rfl⟩) | (go_at_call 28; first | (with_reducible refine (HM1.out _).mono ?_; rintro e w2 ⟨rfl, rfl⟩) | (with_reducible refine (HM2.out _).mono ?_; rintro e w2 ⟨rfl, rfl⟩)) | (go_at_call 27; refine (HC.out _).mono ?_; rintro e w2 ⟨rfl, rfl⟩) | fail)
      all_goals go_ret
      all_goals exact ⟨by rw [HF.out]; rfl, by first | exact HK.out | exact HKa.out _⟩
  cases m2
  · rcases Classical.em (v.tgt.toList = []) with t1 | t1
    · have t2 : v.tgt.toList.isEmpty = true := by simpa using t1
      have HF : Hid (mayB v = false) := Lib.hid (by rw [HB.out]; rw [t2]; simp)
      clear HB
      go_wp2_with (first | (refine load_rowN (by rfl) (.tmp 1) rfl w.heap.size rfl v HO.out ?_) | (go_at_call 29; refine (HS.out _).mono ?_; rintro e w2 ⟨rfl, rfl⟩) | (go_at_call 28; first | (with_reducible refine (HM1.out _).mono ?_; rintro e w2 ⟨rfl, rfl⟩) | (with_reducible refine (HM2.out _).mono ?_; rintro e w2 ⟨rfl, rfl⟩)) | (go_at_call 27; refine (HC.out _).mono ?_; rintro e w2 ⟨rfl, rfl⟩) | fail)
      all_goals go_ret
      all_goals exact ⟨by rw [HF.out]; rfl, by first | exact HK.out | exact HKa.out _⟩
    · have t2 : v.tgt.toList.isEmpty = false := by simpa using t1
      have HF : Hid (mayB v = false) := Lib.hid (by rw [HB.out]; rw [t2]; simp)
      clear HB
      go_wp2_with (first | (refine load_rowN (by rfl) (.tmp 1) rfl w.heap.size rfl v HO.out ?_) | (go_at_call 29; refine (HS.out _).mono ?_; rintro e w2 ⟨rfl, rfl⟩) | (go_at_call 28; first | (with_reducible refine (HM1.out _).mono ?_; rintro e w2 ⟨rfl, rfl⟩) | (with_reducible refine (HM2.out _).mono ?_; rintro e w2 ⟨rfl, rfl⟩)) | (go_at_call 27; refine (HC.out _).mono ?_; rintro e w2 ⟨rfl, rfl⟩) | fail)
      all_goals go_ret
      all_goals exact ⟨by rw [HF.out]; rfl, by first | exact HK.out | exact HKa.out _⟩
  rcases Classical.em (v.tgt.toList = []) with t1 | t1
  rotate_left
  · have t2 : v.tgt.toList.isEmpty = false := by simpa using t1
    have HF : Hid (mayB v = false) := Lib.hid (by rw [HB.out]; rw [t2]; simp)
    clear HB
    go_wp2_with (first | (refine load_rowN (by rfl) (.tmp 1) rfl w.heap.size rfl v HO.out ?_) | (go_at_call 29; refine (HS.out _).mono ?_; rintro e w2 ⟨rfl, rfl⟩) | (go_at_call 28; first | (with_reducible refine (HM1.out _).mono ?_; rintro e w2 ⟨rfl, rfl⟩) | (with_reducible refine (HM2.out _).mono ?_; rintro e w2 ⟨rfl, rfl⟩)) | (go_at_call 27; refine (HC.out _).mono ?_; rintro e w2 ⟨rfl, rfl⟩) | fail)
    all_goals go_ret
    all_goals exact ⟨by rw [HF.out]; rfl, by first | exact HK.out | exact HKa.out _⟩
  have t2 : v.tgt.toList.isEmpty = true := by simpa using t1
  cases st
  · have _u := 0
    have HF : Hid (mayB v = false) := Lib.hid (by rw [HB.out]; rw [t2]; simp)
    clear HB
    go_wp2_with (first | (refine load_rowN (by rfl) (.tmp 1) rfl w.heap.size rfl v HO.out ?_) | (go_at_call 29; refine (HS.out _).mono ?_; rintro e w2 ⟨rfl, rfl⟩) | (go_at_call 28; first | (with_reducible refine (HM1.out _).mono ?_; rintro e w2 ⟨rfl, rfl⟩) | (with_reducible refine (HM2.out _).mono ?_; rintro e w2 ⟨rfl, rfl⟩)) | (go_at_call 27; refine (HC.out _).mono ?_; rintro e w2 ⟨rfl, rfl⟩) | fail)
    all_goals go_ret
    all_goals exact ⟨by rw [HF.out]; rfl, by first | exact HK.out | exact HKa.out _⟩
  rcases Classical.em (v.size = 0) with s1 | s1
  rotate_left
  · have s2 : (v.size == 0) = false := by simpa using s1
    have Hs3 : Hid (decide (v.size = 0) = false) := Lib.hid (decide_eq_false s1)
    have HF : Hid (mayB v = false) := Lib.hid (by rw [HB.out]; rw [t2]; rw [Hs3.out]; simp)
    clear HB
    go_wp2_with (first | (refine load_rowN (by rfl) (.tmp 1) rfl w.heap.size rfl v HO.out ?_) | (go_at_call 29; refine (HS.out _).mono ?_; rintro e w2 ⟨rfl, rfl⟩) | (go_at_call 28; first | (with_reducible refine (HM1.out _).mono ?_; rintro e w2 ⟨rfl, rfl⟩) | (with_reducible refine (HM2.out _).mono ?_; rintro e w2 ⟨rfl, rfl⟩)) | (go_at_call 27; refine (HC.out _).mono ?_; rintro e w2 ⟨rfl, rfl⟩) | fail)
    all_goals go_ret
    all_goals exact ⟨by rw [HF.out]; rfl, by first | exact HK.out | exact HKa.out _⟩
  have Hs3 : Hid (decide (v.size = 0) = true) := Lib.hid (decide_eq_true s1)
  rw [s1] at d8
  have Hs4 := Lib.hid s1
  clear s1
  rcases Classical.em (v.links = 0) with l1 | l1
  rotate_left
  · have l2 : (v.links == 0) = false := by simpa using l1
    have Hl3 : Hid (decide (v.links = 0) = false) := Lib.hid (decide_eq_false l1)
    have HF : Hid (mayB v = false) := Lib.hid (by rw [HB.out]; rw [t2]; rw [Hs3.out]; rw [Hl3.out]; simp)
    clear HB
    go_wp2_with (first | (refine load_rowN (by rfl) (.tmp 1) rfl w.heap.size rfl v HO.out ?_) | (go_at_call 29; refine (HS.out _).mono ?_; rintro e w2 ⟨rfl, rfl⟩) | (go_at_call 28; first | (with_reducible refine (HM1.out _).mono ?_; rintro e w2 ⟨rfl, rfl⟩) | (with_reducible refine (HM2.out _).mono ?_; rintro e w2 ⟨rfl, rfl⟩)) | (go_at_call 27; refine (HC.out _).mono ?_; rintro e w2 ⟨rfl, rfl⟩) | fail)
    all_goals go_ret
    all_goals exact ⟨by rw [HF.out]; rfl, by first | exact HK.out | exact HKa.out _⟩
  have Hl3 : Hid (decide (v.links = 0) = true) := Lib.hid (decide_eq_true l1)
  rw [l1] at d9
  have Hl4 := Lib.hid l1
  clear l1
  rcases Classical.em (v.change = 0) with h1 | h1
  rotate_left
  · have h2 : (v.change == 0) = false := by simpa using h1
    have Hh3 : Hid (decide (v.change = 0) = false) := Lib.hid (decide_eq_false h1)
    have HF : Hid (mayB v = false) := Lib.hid (by rw [HB.out]; rw [t2]; rw [Hs3.out]; rw [Hl3.out]; rw [Hh3.out]; simp)
    clear HB
    go_wp2_with (first | (refine load_rowN (by rfl) (.tmp 1) rfl w.heap.size rfl v HO.out ?_) | (go_at_call 29; refine (HS.out _).mono ?_; rintro e w2 ⟨rfl, rfl⟩) | (go_at_call 28; first | (with_reducible refine (HM1.out _).mono ?_; rintro e w2 ⟨rfl, rfl⟩) | (with_reducible refine (HM2.out _).mono ?_; rintro e w2 ⟨rfl, rfl⟩)) | (go_at_call 27; refine (HC.out _).mono ?_; rintro e w2 ⟨rfl, rfl⟩) | fail)
    all_goals go_ret
    all_goals exact ⟨by rw [HF.out]; rfl, by first | exact HK.out | exact HKa.out _⟩
  have Hh3 : Hid (decide (v.change = 0) = true) := Lib.hid (decide_eq_true h1)
  rw [h1] at d10
  have Hh4 := Lib.hid h1
  clear h1
  have HF : Hid (mayB v = true) := Lib.hid (by rw [HB.out]; rw [t2]; rw [Hs3.out]; rw [Hl3.out]; rw [Hh3.out]; simp)
  clear HB
  go_wp2_with (first | (refine load_rowN (by rfl) (.tmp 1) rfl w.heap.size rfl v HO.out ?_) | (go_at_call 29; refine (HS.out _).mono ?_; rintro e w2 ⟨rfl, rfl⟩) | (go_at_call 28; first | (with_reducible refine (HM1.out _).mono ?_; rintro e w2 ⟨rfl, rfl⟩) | (with_reducible refine (HM2.out _).mono ?_; rintro e w2 ⟨rfl, rfl⟩)) | (go_at_call 27; refine (HC.out _).mono ?_; rintro e w2 ⟨rfl, rfl⟩) | fail)
  all_goals go_ret
  all_goals exact ⟨by rw [HF.out]; rfl, by first | exact HK.out | exact HKa.out _⟩
set_option maxHeartbeats 4000000 in
theorem mayBe_5 (v : NodeV) (w : World) (hk : v.kind = 5) : Calls Tryz.prog 17 #[.agg (nvC v).toArray] w fun e w' => e = .returned (.bool (mayB v)) ∧ Kept NoB w w' := by
  obtain ⟨w1, hw1⟩ : ∃ w1, w1 = w.alloc (.cells (nvC v).toArray 25) := ⟨_, rfl⟩
  have hob : w1.heap[w.heap.size]? = some (.cells (nvC v).toArray 25 (0, 0)) := by rw [hw1]; exact heap_alloc_new _ _
  have c0 : w1.cell? ⟨w.heap.size, 0, none⟩ = some (.int .i64 5) := by rw [obj_cell hob, ← hk]; rfl
  have c5 : w1.cell? ⟨w.heap.size, 5, none⟩ = some (.string v.tgt) := by rw [obj_cell hob]; rfl
  have c6 : w1.cell? ⟨w.heap.size, 6, none⟩ = some (.int .i64 v.major) := by rw [obj_cell hob]; rfl
  have c7 : w1.cell? ⟨w.heap.size, 7, none⟩ = some (.int .i64 v.minor) := by rw [obj_cell hob]; rfl
  have d8 : ∀ o, (w1.alloc o).cell? ⟨w.heap.size, 8, none⟩ = some (.int .i64 v.size) := fun o => ((Kept.refl NoB w1).alloc o).cell (by rw [obj_cell hob]; rfl)
  have d9 : ∀ o, (w1.alloc o).cell? ⟨w.heap.size, 9, none⟩ = some (.int .i64 v.links) := fun o => ((Kept.refl NoB w1).alloc o).cell (by rw [obj_cell hob]; rfl)
  have d10 : ∀ o, (w1.alloc o).cell? ⟨w.heap.size, 10, none⟩ = some (.int .i64 v.change) := fun o => ((Kept.refl NoB w1).alloc o).cell (by rw [obj_cell hob]; rfl)
  have HW := Lib.hid hw1; have HO := Lib.hid hob
  have HK : Hid (Kept NoB w w1) := Lib.hid (by rw [hw1]; exact (Kept.refl NoB w).alloc _)
  have HKa : Hid (∀ o, Kept NoB w (w1.alloc o)) := Lib.hid (fun o => HK.out.alloc o)
  have HS := Lib.hid (mayBeSet_any v)
  have HM1 := Lib.hid (within_any v.major 1048575); have HM2 := Lib.hid (within_any v.minor 1048575)
  have HC := Lib.hid (Tryz.strings_Contains_one v.tgt 0)
  have HB : Hid (mayB v = (v.tgt.toList.isEmpty && (decide (0 ≤ v.major) && decide (v.major ≤ 1048575) && (decide (0 ≤ v.minor) && decide (v.minor ≤ 1048575))) && setB v && decide (v.size = 0) && decide (v.links = 0) && decide (v.change = 0))) := Lib.hid (by
    unfold mayB setB; rw [hk]; rfl)
  clear hob hw1 hk
  obtain ⟨st, hst⟩ : ∃ st, st = setB v := ⟨_, rfl⟩
  rw [← hst] at HS HB
  clear hst
  obtain ⟨m1, hm1⟩ : ∃ m1, m1 = (decide (0 ≤ v.major) && decide (v.major ≤ 1048575)) := ⟨_, rfl⟩
  obtain ⟨m2, hm2⟩ : ∃ m2, m2 = (decide (0 ≤ v.minor) && decide (v.minor ≤ 1048575)) := ⟨_, rfl⟩
  rw [← hm1] at HB HM1
  rw [← hm2] at HB HM2
  clear hm1 hm2
  go_enter Tryz.func17, Tryz.ntmps17
  go_upto_region 1 with fail
  rw [← HW.out]
  obtain ⟨z, hz⟩ : ∃ z, (v.major == 0) = z := ⟨_, rfl⟩
  cases m1
  · rcases Classical.em (v.tgt.toList = []) with t1 | t1
    · have t2 : v.tgt.toList.isEmpty = true := by simpa using t1
      have HF : Hid (mayB v = false) := Lib.hid (by rw [HB.out]; rw [t2]; simp)
      clear HB
      go_wp2_with (first | (refine load_rowN (by rfl) (.tmp 1) rfl w.heap.size rfl v HO.out ?_) | (go_at_call 29; refine (HS.out _).mono ?_; rintro e w2 ⟨rfl, rfl⟩) | (go_at_call 28; first | (with_reducible refine (HM1.out _).mono ?_; rintro e w2 ⟨rfl, rfl⟩) | (with_reducible refine (HM2.out _).mono ?_; rintro e w2 ⟨rfl, rfl⟩)) | (go_at_call 27; refine (HC.out _).mono ?_; rintro e w2 ⟨rfl, rfl⟩) | fail)
      all_goals go_ret
      all_goals exact ⟨by rw [HF.out]; rfl, by first | exact HK.out | exact HKa.out _⟩
    · have t2 : v.tgt.toList.isEmpty = false := by simpa using t1
      have HF : Hid (mayB v = false) := Lib.hid (by rw [HB.out]; rw [t2]; simp)
      clear HB
      go_wp2_with (first | (refine load_rowN (by rfl) (.tmp 1) rfl w.heap.size rfl v HO.out ?_) | (go_at_call 29; refine (HS.out _).mono ?_; rintro e w2 ⟨rfl, rfl⟩) | (go_at_call 28; first | (with_reducible refine (HM1.out _).mono ?_; rintro e w2 ⟨rfl, rfl⟩) | (with_reducible refine (HM2.out _).mono ?_; rintro e w2 ⟨rfl, rfl⟩)) | (go_at_call 27; refine (HC.out _).mono ?_; rintro e w2 ⟨rfl, rfl⟩) | fail)
      all_goals go_ret
      all_goals exact ⟨by rw [HF.out]; rfl, by first | exact HK.out | exact HKa.out _⟩
  cases m2
  · rcases Classical.em (v.tgt.toList = []) with t1 | t1
    · have t2 : v.tgt.toList.isEmpty = true := by simpa using t1
      have HF : Hid (mayB v = false) := Lib.hid (by rw [HB.out]; rw [t2]; simp)
      clear HB
      go_wp2_with (first | (refine load_rowN (by rfl) (.tmp 1) rfl w.heap.size rfl v HO.out ?_) | (go_at_call 29; refine (HS.out _).mono ?_; rintro e w2 ⟨rfl, rfl⟩) | (go_at_call 28; first | (with_reducible refine (HM1.out _).mono ?_; rintro e w2 ⟨rfl, rfl⟩) | (with_reducible refine (HM2.out _).mono ?_; rintro e w2 ⟨rfl, rfl⟩)) | (go_at_call 27; refine (HC.out _).mono ?_; rintro e w2 ⟨rfl, rfl⟩) | fail)
      all_goals go_ret
      all_goals exact ⟨by rw [HF.out]; rfl, by first | exact HK.out | exact HKa.out _⟩
    · have t2 : v.tgt.toList.isEmpty = false := by simpa using t1
      have HF : Hid (mayB v = false) := Lib.hid (by rw [HB.out]; rw [t2]; simp)
      clear HB
      go_wp2_with (first | (refine load_rowN (by rfl) (.tmp 1) rfl w.heap.size rfl v HO.out ?_) | (go_at_call 29; refine (HS.out _).mono ?_; rintro e w2 ⟨rfl, rfl⟩) | (go_at_call 28; first | (with_reducible refine (HM1.out _).mono ?_; rintro e w2 ⟨rfl, rfl⟩) | (with_reducible refine (HM2.out _).mono ?_; rintro e w2 ⟨rfl, rfl⟩)) | (go_at_call 27; refine (HC.out _).mono ?_; rintro e w2 ⟨rfl, rfl⟩) | fail)
      all_goals go_ret
      all_goals exact ⟨by rw [HF.out]; rfl, by first | exact HK.out | exact HKa.out _⟩
  rcases Classical.em (v.tgt.toList = []) with t1 | t1
  rotate_left
  · have t2 : v.tgt.toList.isEmpty = false := by simpa using t1
    have HF : Hid (mayB v = false) := Lib.hid (by rw [HB.out]; rw [t2]; simp)
    clear HB
    go_wp2_with (first | (refine load_rowN (by rfl) (.tmp 1) rfl w.heap.size rfl v HO.out ?_) | (go_at_call 29; refine (HS.out _).mono ?_; rintro e w2 ⟨rfl, rfl⟩) | (go_at_call 28; first | (with_reducible refine (HM1.out _).mono ?_; rintro e w2 ⟨rfl, rfl⟩) | (with_reducible refine (HM2.out _).mono ?_; rintro e w2 ⟨rfl, rfl⟩)) | (go_at_call 27; refine (HC.out _).mono ?_; rintro e w2 ⟨rfl, rfl⟩) | fail)
    all_goals go_ret
    all_goals exact ⟨by rw [HF.out]; rfl, by first | exact HK.out | exact HKa.out _⟩
  have t2 : v.tgt.toList.isEmpty = true := by simpa using t1
  cases st
  · have _u := 0
    have HF : Hid (mayB v = false) := Lib.hid (by rw [HB.out]; rw [t2]; simp)
    clear HB
    go_wp2_with (first | (refine load_rowN (by rfl) (.tmp 1) rfl w.heap.size rfl v HO.out ?_) | (go_at_call 29; refine (HS.out _).mono ?_; rintro e w2 ⟨rfl, rfl⟩) | (go_at_call 28; first | (with_reducible refine (HM1.out _).mono ?_; rintro e w2 ⟨rfl, rfl⟩) | (with_reducible refine (HM2.out _).mono ?_; rintro e w2 ⟨rfl, rfl⟩)) | (go_at_call 27; refine (HC.out _).mono ?_; rintro e w2 ⟨rfl, rfl⟩) | fail)
    all_goals go_ret
    all_goals exact ⟨by rw [HF.out]; rfl, by first | exact HK.out | exact HKa.out _⟩
  rcases Classical.em (v.size = 0) with s1 | s1
  rotate_left
  · have s2 : (v.size == 0) = false := by simpa using s1
    have Hs3 : Hid (decide (v.size = 0) = false) := Lib.hid (decide_eq_false s1)
    have HF : Hid (mayB v = false) := Lib.hid (by rw [HB.out]; rw [t2]; rw [Hs3.out]; simp)
    clear HB
    go_wp2_with (first | (refine load_rowN (by rfl) (.tmp 1) rfl w.heap.size rfl v HO.out ?_) | (go_at_call 29; refine (HS.out _).mono ?_; rintro e w2 ⟨rfl, rfl⟩) | (go_at_call 28; first | (with_reducible refine (HM1.out _).mono ?_; rintro e w2 ⟨rfl, rfl⟩) | (with_reducible refine (HM2.out _).mono ?_; rintro e w2 ⟨rfl, rfl⟩)) | (go_at_call 27; refine (HC.out _).mono ?_; rintro e w2 ⟨rfl, rfl⟩) | fail)
    all_goals go_ret
    all_goals exact ⟨by rw [HF.out]; rfl, by first | exact HK.out | exact HKa.out _⟩
  have Hs3 : Hid (decide (v.size = 0) = true) := Lib.hid (decide_eq_true s1)
  rw [s1] at d8
  have Hs4 := Lib.hid s1
  clear s1
  rcases Classical.em (v.links = 0) with l1 | l1
  rotate_left
  · have l2 : (v.links == 0) = false := by simpa using l1
    have Hl3 : Hid (decide (v.links = 0) = false) := Lib.hid (decide_eq_false l1)
    have HF : Hid (mayB v = false) := Lib.hid (by rw [HB.out]; rw [t2]; rw [Hs3.out]; rw [Hl3.out]; simp)
    clear HB
    go_wp2_with (first | (refine load_rowN (by rfl) (.tmp 1) rfl w.heap.size rfl v HO.out ?_) | (go_at_call 29; refine (HS.out _).mono ?_; rintro e w2 ⟨rfl, rfl⟩) | (go_at_call 28; first | (with_reducible refine (HM1.out _).mono ?_; rintro e w2 ⟨rfl, rfl⟩) | (with_reducible refine (HM2.out _).mono ?_; rintro e w2 ⟨rfl, rfl⟩)) | (go_at_call 27; refine (HC.out _).mono ?_; rintro e w2 ⟨rfl, rfl⟩) | fail)
    all_goals go_ret
    all_goals exact ⟨by rw [HF.out]; rfl, by first | exact HK.out | exact HKa.out _⟩
  have Hl3 : Hid (decide (v.links = 0) = true) := Lib.hid (decide_eq_true l1)
  rw [l1] at d9
  have Hl4 := Lib.hid l1
  clear l1
  rcases Classical.em (v.change = 0) with h1 | h1
  rotate_left
  · have h2 : (v.change == 0) = false := by simpa using h1
    have Hh3 : Hid (decide (v.change = 0) = false) := Lib.hid (decide_eq_false h1)
    have HF : Hid (mayB v = false) := Lib.hid (by rw [HB.out]; rw [t2]; rw [Hs3.out]; rw [Hl3.out]; rw [Hh3.out]; simp)
    clear HB
    go_wp2_with (first | (refine load_rowN (by rfl) (.tmp 1) rfl w.heap.size rfl v HO.out ?_) | (go_at_call 29; refine (HS.out _).mono ?_; rintro e w2 ⟨rfl, rfl⟩) | (go_at_call 28; first | (with_reducible refine (HM1.out _).mono ?_; rintro e w2 ⟨rfl, rfl⟩) | (with_reducible refine (HM2.out _).mono ?_; rintro e w2 ⟨rfl, rfl⟩)) | (go_at_call 27; refine (HC.out _).mono ?_; rintro e w2 ⟨rfl, rfl⟩) | fail)
    all_goals go_ret
    all_goals exact ⟨by rw [HF.out]; rfl, by first | exact HK.out | exact HKa.out _⟩
  have Hh3 : Hid (decide (v.change = 0) = true) := Lib.hid (decide_eq_true h1)
  rw [h1] at d10
  have Hh4 := Lib.hid h1
  clear h1
  have HF : Hid (mayB v = true) := Lib.hid (by rw [HB.out]; rw [t2]; rw [Hs3.out]; rw [Hl3.out]; rw [Hh3.out]; simp)
  clear HB
  go_wp2_with (first | (refine load_rowN (by rfl) (.tmp 1) rfl w.heap.size rfl v HO.out ?_) | (go_at_call 29; refine (HS.out _).mono ?_; rintro e w2 ⟨rfl, rfl⟩) | (go_at_call 28; first | (with_reducible refine (HM1.out _).mono ?_; rintro e w2 ⟨rfl, rfl⟩) | (with_reducible refine (HM2.out _).mono ?_; rintro e w2 ⟨rfl, rfl⟩)) | (go_at_call 27; refine (HC.out _).mono ?_; rintro e w2 ⟨rfl, rfl⟩) | fail)
  all_goals go_ret
  all_goals exact ⟨by rw [HF.out]; rfl, by first | exact HK.out | exact HKa.out _⟩
set_option maxHeartbeats 4000000 in
theorem mayBe_no (v : NodeV) (w : World) (hk : ¬ (v.kind = 1 ∨ v.kind = 6 ∨ v.kind = 7 ∨ v.kind = 3 ∨ v.kind = 4 ∨ v.kind = 5)) : Calls Tryz.prog 17 #[.agg (nvC v).toArray] w fun e w' => e = .returned (.bool (mayB v)) ∧ Kept NoB w w' := by
  obtain ⟨w1, hw1⟩ : ∃ w1, w1 = w.alloc (.cells (nvC v).toArray 25) := ⟨_, rfl⟩
  have hob : w1.heap[w.heap.size]? = some (.cells (nvC v).toArray 25 (0, 0)) := by rw [hw1]; exact heap_alloc_new _ _
  have c0 : w1.cell? ⟨w.heap.size, 0, none⟩ = some (.int .i64 v.kind) := by rw [obj_cell hob]; rfl
  have HW := Lib.hid hw1
  have HK : Hid (Kept NoB w w1) := Lib.hid (by rw [hw1]; exact (Kept.refl NoB w).alloc _)
  have k1 : (v.kind == 1) = false := by simp; omega
  have k6 : (v.kind == 6) = false := by simp; omega
  have k7 : (v.kind == 7) = false := by simp; omega
  have k3 : (v.kind == 3) = false := by simp; omega
  have k4 : (v.kind == 4) = false := by simp; omega
  have k5 : (v.kind == 5) = false := by simp; omega
  have HF : Hid (mayB v = false) := Lib.hid (by unfold mayB; rw [k1, k6, k7, k3, k4, k5]; rfl)
  clear hob hw1 hk
  go_enter Tryz.func17, Tryz.ntmps17
  go_upto_region 1 with fail
  rw [← HW.out]
  go_wp2
  go_ret
  exact ⟨by rw [HF.out]; rfl, HK.out⟩
theorem mayBe_any (v : NodeV) (w : World) : Calls Tryz.prog 17 #[.agg (nvC v).toArray] w fun e w' => e = .returned (.bool (mayB v)) ∧ Kept NoB w w' := by
  by_cases hk : v.kind = 1 ∨ v.kind = 6 ∨ v.kind = 7 ∨ v.kind = 3 ∨ v.kind = 4 ∨ v.kind = 5
  · rcases hk with hk | hk | hk | hk | hk | hk
    · exact mayBe_1 v w hk
    · exact mayBe_6 v w hk
    · exact mayBe_7 v w hk
    · exact mayBe_3 v w hk
    · exact mayBe_4 v w hk
    · exact mayBe_5 v w hk
  · exact mayBe_no v w hk
end Go.Proofs.YtjjgadanobeamaaGreatDoor
