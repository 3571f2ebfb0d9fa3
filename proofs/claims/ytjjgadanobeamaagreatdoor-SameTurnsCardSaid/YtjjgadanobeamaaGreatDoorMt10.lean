/-
  A tree of files in memory: what a node may be.
-/
import Derived.Test.YtjjgadanobeamaaGreatDoorMt9
import Derived.Laws.Rows
import Derived.Laws.Tables
namespace Go.Proofs.YtjjgadanobeamaaGreatDoor
open Go.RowKit
set_option linter.unusedVariables false
set_option linter.unusedSimpArgs false
set_option maxRecDepth 20000

theorem within_any (n m : Int) (w : World) : Calls Tryz.prog 28 #[.int .i64 n, .int .i64 m] w fun e w' => e = .returned (.bool (decide (0 ≤ n) && decide (n ≤ m))) ∧ w' = w := by
  go_enter Tryz.func28, Tryz.ntmps28
  by_cases h : 0 ≤ n
  · go_wp2
    go_ret
    exact ⟨by simp [h], rfl⟩
  · go_wp2
    go_ret
    have e : decide (0 ≤ n) = false := decide_eq_false (by omega)
    exact ⟨by rw [e]; rfl, rfl⟩
def setB (v : NodeV) : Bool := decide (0 ≤ v.mode) && decide (v.mode ≤ 4095) && (decide (0 ≤ v.user) && decide (v.user ≤ 2147483647)) && (decide (0 ≤ v.group) && decide (v.group ≤ 2147483647))
set_option maxHeartbeats 1000000 in
theorem mayBeSet_any (v : NodeV) (w : World) : Calls Tryz.prog 29 #[.agg (nvC v).toArray] w fun e w' => e = .returned (.bool (setB v)) ∧ w' = w.alloc (.cells (nvC v).toArray 25) := by
  obtain ⟨w1, hw1⟩ : ∃ w1, w1 = w.alloc (.cells (nvC v).toArray 25) := ⟨_, rfl⟩
  have hob : w1.heap[w.heap.size]? = some (.cells (nvC v).toArray 25 (0, 0)) := by rw [hw1]; exact heap_alloc_new _ _
  have c1 : w1.cell? ⟨w.heap.size, 1, none⟩ = some (.int .i64 v.mode) := by rw [obj_cell hob]; rfl
  have c2 : w1.cell? ⟨w.heap.size, 2, none⟩ = some (.int .i64 v.user) := by rw [obj_cell hob]; rfl
  have c3 : w1.cell? ⟨w.heap.size, 3, none⟩ = some (.int .i64 v.group) := by rw [obj_cell hob]; rfl
  have HW := Lib.hid hw1
  clear hob hw1
  obtain ⟨p1, hp1⟩ : ∃ p1, p1 = (decide (0 ≤ v.mode) && decide (v.mode ≤ 4095)) := ⟨_, rfl⟩
  obtain ⟨p2, hp2⟩ : ∃ p2, p2 = (decide (0 ≤ v.user) && decide (v.user ≤ 2147483647)) := ⟨_, rfl⟩
  obtain ⟨p3, hp3⟩ : ∃ p3, p3 = (decide (0 ≤ v.group) && decide (v.group ≤ 2147483647)) := ⟨_, rfl⟩
  have hS : setB v = (p1 && p2 && p3) := by rw [hp1, hp2, hp3]; rfl
  rw [hS]
  have H1 : ∀ W, Calls Tryz.prog 28 #[.int .i64 v.mode, .int .i64 4095] W fun e w' => e = .returned (.bool p1) ∧ w' = W := fun W => by rw [hp1]; exact within_any _ _ W
  have H2 : ∀ W, Calls Tryz.prog 28 #[.int .i64 v.user, .int .i64 2147483647] W fun e w' => e = .returned (.bool p2) ∧ w' = W := fun W => by rw [hp2]; exact within_any _ _ W
  have H3 : ∀ W, Calls Tryz.prog 28 #[.int .i64 v.group, .int .i64 2147483647] W fun e w' => e = .returned (.bool p3) ∧ w' = W := fun W => by rw [hp3]; exact within_any _ _ W
  have K1 := Lib.hid H1; have K2 := Lib.hid H2; have K3 := Lib.hid H3
  clear hp1 hp2 hp3 hS H1 H2 H3
  go_enter Tryz.func29, Tryz.ntmps29
  go_upto_region 1 with fail
  rw [← HW.out]
  cases p1
  · go_wp2_with (go_at_call 28; with_reducible refine (K1.out _).mono ?_; rintro e w2 ⟨rfl, rfl⟩)

    go_ret
    exact ⟨rfl, HW.out⟩
  · cases p2
    · go_wp2_with (go_at_call 28; first | (with_reducible refine (K1.out _).mono ?_; rintro e w2 ⟨rfl, rfl⟩) | (with_reducible refine (K2.out _).mono ?_; rintro e w2 ⟨rfl, rfl⟩))
      go_ret
      exact ⟨rfl, HW.out⟩
    · go_wp2_with (go_at_call 28; first | (with_reducible refine (K1.out _).mono ?_; rintro e w2 ⟨rfl, rfl⟩) | (with_reducible refine (K2.out _).mono ?_; rintro e w2 ⟨rfl, rfl⟩) | (with_reducible refine (K3.out _).mono ?_; rintro e w2 ⟨rfl, rfl⟩))
      go_ret
      exact ⟨rfl, HW.out⟩
theorem load_rowN {ops : Array Oper} {rest : List Oper} {o : Oper} {a : Act} {w : World} {Q : Exit → Act → World → Prop} (hw : Region.wanted o (yielded ops a.tmps) = true) (x : Operand) (ho : o.op = .load 25 x)
    (g : Nat) (hx : a.eval x = .pointer (some ⟨g, 0, none⟩)) (v : NodeV) (hg : w.heap[g]? = some (.cells (nvC v).toArray 25 (0, 0)))
    (h : wpList Tryz.prog ops Q rest (a.put o.dst (.agg (nvC v).toArray)) w) : wpList Tryz.prog ops Q (o :: rest) a w :=
  wpList_step fun K hK => by
    simp only [hw, if_true]
    exact wp_load_row 25 x ho g hx 25 (nvC v).toArray (0, 0) _ hg Tryz.underlying25 rfl infoNd (hK _ _ h)
set_option maxHeartbeats 4000000 in
theorem mayBe_1 (v : NodeV) (w : World) (hk : v.kind = 1) : Calls Tryz.prog 17 #[.agg (nvC v).toArray] w fun e w' => e = .returned (.bool (mayB v)) ∧ Kept NoB w w' := by
  obtain ⟨w1, hw1⟩ : ∃ w1, w1 = w.alloc (.cells (nvC v).toArray 25) := ⟨_, rfl⟩
  have hob : w1.heap[w.heap.size]? = some (.cells (nvC v).toArray 25 (0, 0)) := by rw [hw1]; exact heap_alloc_new _ _
  have c0 : w1.cell? ⟨w.heap.size, 0, none⟩ = some (.int .i64 1) := by rw [obj_cell hob, ← hk]; rfl
  have c5 : w1.cell? ⟨w.heap.size, 5, none⟩ = some (.string v.tgt) := by rw [obj_cell hob]; rfl
  have c6 : w1.cell? ⟨w.heap.size, 6, none⟩ = some (.int .i64 v.major) := by rw [obj_cell hob]; rfl
  have c7 : w1.cell? ⟨w.heap.size, 7, none⟩ = some (.int .i64 v.minor) := by rw [obj_cell hob]; rfl
  have d8 : ∀ o, (w1.alloc o).cell? ⟨w.heap.size, 8, none⟩ = some (.int .i64 v.size) := fun o => ((Kept.refl NoB w1).alloc o).cell (by rw [obj_cell hob]; rfl)
  have d9 : ∀ o, (w1.alloc o).cell? ⟨w.heap.size, 9, none⟩ = some (.int .i64 v.links) := fun o => ((Kept.refl NoB w1).alloc o).cell (by rw [obj_cell hob]; rfl)
  have d10 : ∀ o, (w1.alloc o).cell? ⟨w.heap.size, 10, none⟩ = some (.int .i64 v.change) := fun o => ((Kept.refl NoB w1).alloc o).cell (by rw [obj_cell hob]; rfl)
  have HW := Lib.hid hw1; have HO := Lib.hid hob
  have HK : Hid (Kept NoB w w1) := Lib.hid (by rw [hw1]; exact (Kept.refl NoB w).alloc _)
  have HKa : Hid (∀ o, Kept NoB w (w1.alloc o)) := Lib.hid (fun o => HK.out.alloc o)
  have HS := Lib.hid (mayBeSet_any v)
  have HM1 := Lib.hid (within_any v.major 1048575); have HM2 := Lib.hid (within_any v.minor 1048575)
  have HC := Lib.hid (Tryz.strings_Contains_one v.tgt 0)
  have HB : Hid (mayB v = (v.tgt.toList.isEmpty && (decide (v.major = 0) && decide (v.minor = 0)) && setB v && decide (v.size = 0) && decide (v.links = 0) && decide (v.change = 0))) := Lib.hid (by
    unfold mayB setB; rw [hk]; rfl)
  clear hob hw1 hk
  obtain ⟨st, hst⟩ : ∃ st, st = setB v := ⟨_, rfl⟩
  rw [← hst] at HS HB
  clear hst
  go_enter Tryz.func17, Tryz.ntmps17
  go_upto_region 1 with fail
  rw [← HW.out]
  rcases Classical.em (v.tgt.toList = []) with t1 | t1
  rotate_left
  · have t2 : v.tgt.toList.isEmpty = false := by simpa using t1
    have HF : Hid (mayB v = false) := Lib.hid (by rw [HB.out]; rw [t2]; simp)
    clear HB
    go_wp2_with (first | (refine load_rowN (by rfl) (.tmp 1) rfl w.heap.size rfl v HO.out ?_) | (go_at_call 29; refine (HS.out _).mono ?_; rintro e w2 ⟨rfl, rfl⟩) | (go_at_call 28; first | (with_reducible refine (HM1.out _).mono ?_; rintro e w2 ⟨rfl, rfl⟩) | (with_reducible refine (HM2.out _).mono ?_; rintro e w2 ⟨rfl, rfl⟩)) | (go_at_call 27; refine (HC.out _).mono ?_; rintro e w2 ⟨rfl, rfl⟩) | fail)
    all_goals go_ret
    all_goals exact ⟨by rw [HF.out]; rfl, by first | exact HK.out | exact HKa.out _⟩
  have t2 : v.tgt.toList.isEmpty = true := by simpa using t1
  rcases Classical.em (v.major = 0) with j1 | j1
  rotate_left
  · have j2 : (v.major == 0) = false := by simpa using j1
    have HJ : Hid (decide (v.major = 0) = false) := Lib.hid (decide_eq_false j1)
    have HF : Hid (mayB v = false) := Lib.hid (by rw [HB.out]; rw [t2]; rw [HJ.out]; simp)
    clear HB
    go_wp2_with (first | (refine load_rowN (by rfl) (.tmp 1) rfl w.heap.size rfl v HO.out ?_) | (go_at_call 29; refine (HS.out _).mono ?_; rintro e w2 ⟨rfl, rfl⟩) | (go_at_call 28; first | (with_reducible refine (HM1.out _).mono ?_; rintro e w2 ⟨rfl, rfl⟩) | (with_reducible refine (HM2.out _).mono ?_; rintro e w2 ⟨rfl, rfl⟩)) | (go_at_call 27; refine (HC.out _).mono ?_; rintro e w2 ⟨rfl, rfl⟩) | fail)
    all_goals go_ret
    all_goals exact ⟨by rw [HF.out]; rfl, by first | exact HK.out | exact HKa.out _⟩
  have HJ : Hid (decide (v.major = 0) = true) := Lib.hid (decide_eq_true j1)
  rw [j1] at c6
  have HJ1 := Lib.hid j1
  clear j1
  rcases Classical.em (v.minor = 0) with n1 | n1
  rotate_left
  · have n2 : (v.minor == 0) = false := by simpa using n1
    have HN : Hid (decide (v.minor = 0) = false) := Lib.hid (decide_eq_false n1)
    have HF : Hid (mayB v = false) := Lib.hid (by rw [HB.out]; rw [t2]; rw [HJ.out]; rw [HN.out]; simp)
    clear HB
    go_wp2_with (first | (refine load_rowN (by rfl) (.tmp 1) rfl w.heap.size rfl v HO.out ?_) | (go_at_call 29; refine (HS.out _).mono ?_; rintro e w2 ⟨rfl, rfl⟩) | (go_at_call 28; first | (with_reducible refine (HM1.out _).mono ?_; rintro e w2 ⟨rfl, rfl⟩) | (with_reducible refine (HM2.out _).mono ?_; rintro e w2 ⟨rfl, rfl⟩)) | (go_at_call 27; refine (HC.out _).mono ?_; rintro e w2 ⟨rfl, rfl⟩) | fail)
    all_goals go_ret
    all_goals exact ⟨by rw [HF.out]; rfl, by first | exact HK.out | exact HKa.out _⟩
  have HN : Hid (decide (v.minor = 0) = true) := Lib.hid (decide_eq_true n1)
  rw [n1] at c7
  have HN1 := Lib.hid n1
  clear n1
  cases st
  · have _u := 0
    have HF : Hid (mayB v = false) := Lib.hid (by rw [HB.out]; rw [t2]; rw [HJ.out]; rw [HN.out]; simp)
    clear HB
    go_wp2_with (first | (refine load_rowN (by rfl) (.tmp 1) rfl w.heap.size rfl v HO.out ?_) | (go_at_call 29; refine (HS.out _).mono ?_; rintro e w2 ⟨rfl, rfl⟩) | (go_at_call 28; first | (with_reducible refine (HM1.out _).mono ?_; rintro e w2 ⟨rfl, rfl⟩) | (with_reducible refine (HM2.out _).mono ?_; rintro e w2 ⟨rfl, rfl⟩)) | (go_at_call 27; refine (HC.out _).mono ?_; rintro e w2 ⟨rfl, rfl⟩) | fail)
    all_goals go_ret
    all_goals exact ⟨by rw [HF.out]; rfl, by first | exact HK.out | exact HKa.out _⟩
  rcases Classical.em (v.size = 0) with s1 | s1
  rotate_left
  · have s2 : (v.size == 0) = false := by simpa using s1
    have Hs3 : Hid (decide (v.size = 0) = false) := Lib.hid (decide_eq_false s1)
    have HF : Hid (mayB v = false) := Lib.hid (by rw [HB.out]; rw [t2]; rw [HJ.out]; rw [HN.out]; rw [Hs3.out]; simp)
    clear HB
    go_wp2_with (first | (refine load_rowN (by rfl) (.tmp 1) rfl w.heap.size rfl v HO.out ?_) | (go_at_call 29; refine (HS.out _).mono ?_; rintro e w2 ⟨rfl, rfl⟩) | (go_at_call 28; first | (with_reducible refine (HM1.out _).mono ?_; rintro e w2 ⟨rfl, rfl⟩) | (with_reducible refine (HM2.out _).mono ?_; rintro e w2 ⟨rfl, rfl⟩)) | (go_at_call 27; refine (HC.out _).mono ?_; rintro e w2 ⟨rfl, rfl⟩) | fail)
    all_goals go_ret
    all_goals exact ⟨by rw [HF.out]; rfl, by first | exact HK.out | exact HKa.out _⟩
  have Hs3 : Hid (decide (v.size = 0) = true) := Lib.hid (decide_eq_true s1)
  rw [s1] at d8
  have Hs4 := Lib.hid s1
  clear s1
  rcases Classical.em (v.links = 0) with l1 | l1
  rotate_left
  · have l2 : (v.links == 0) = false := by simpa using l1
    have Hl3 : Hid (decide (v.links = 0) = false) := Lib.hid (decide_eq_false l1)
    have HF : Hid (mayB v = false) := Lib.hid (by rw [HB.out]; rw [t2]; rw [HJ.out]; rw [HN.out]; rw [Hs3.out]; rw [Hl3.out]; simp)
    clear HB
    go_wp2_with (first | (refine load_rowN (by rfl) (.tmp 1) rfl w.heap.size rfl v HO.out ?_) | (go_at_call 29; refine (HS.out _).mono ?_; rintro e w2 ⟨rfl, rfl⟩) | (go_at_call 28; first | (with_reducible refine (HM1.out _).mono ?_; rintro e w2 ⟨rfl, rfl⟩) | (with_reducible refine (HM2.out _).mono ?_; rintro e w2 ⟨rfl, rfl⟩)) | (go_at_call 27; refine (HC.out _).mono ?_; rintro e w2 ⟨rfl, rfl⟩) | fail)
    all_goals go_ret
    all_goals exact ⟨by rw [HF.out]; rfl, by first | exact HK.out | exact HKa.out _⟩
  have Hl3 : Hid (decide (v.links = 0) = true) := Lib.hid (decide_eq_true l1)
  rw [l1] at d9
  have Hl4 := Lib.hid l1
  clear l1
  rcases Classical.em (v.change = 0) with h1 | h1
  rotate_left
  · have h2 : (v.change == 0) = false := by simpa using h1
    have Hh3 : Hid (decide (v.change = 0) = false) := Lib.hid (decide_eq_false h1)
    have HF : Hid (mayB v = false) := Lib.hid (by rw [HB.out]; rw [t2]; rw [HJ.out]; rw [HN.out]; rw [Hs3.out]; rw [Hl3.out]; rw [Hh3.out]; simp)
    clear HB
    go_wp2_with (first | (refine load_rowN (by rfl) (.tmp 1) rfl w.heap.size rfl v HO.out ?_) | (go_at_call 29; refine (HS.out _).mono ?_; rintro e w2 ⟨rfl, rfl⟩) | (go_at_call 28; first | (with_reducible refine (HM1.out _).mono ?_; rintro e w2 ⟨rfl, rfl⟩) | (with_reducible refine (HM2.out _).mono ?_; rintro e w2 ⟨rfl, rfl⟩)) | (go_at_call 27; refine (HC.out _).mono ?_; rintro e w2 ⟨rfl, rfl⟩) | fail)
    all_goals go_ret
    all_goals exact ⟨by rw [HF.out]; rfl, by first | exact HK.out | exact HKa.out _⟩
  have Hh3 : Hid (decide (v.change = 0) = true) := Lib.hid (decide_eq_true h1)
  rw [h1] at d10
  have Hh4 := Lib.hid h1
  clear h1
  have HF : Hid (mayB v = true) := Lib.hid (by rw [HB.out]; rw [t2]; rw [HJ.out]; rw [HN.out]; rw [Hs3.out]; rw [Hl3.out]; rw [Hh3.out]; simp)
  clear HB
  go_wp2_with (first | (refine load_rowN (by rfl) (.tmp 1) rfl w.heap.size rfl v HO.out ?_) | (go_at_call 29; refine (HS.out _).mono ?_; rintro e w2 ⟨rfl, rfl⟩) | (go_at_call 28; first | (with_reducible refine (HM1.out _).mono ?_; rintro e w2 ⟨rfl, rfl⟩) | (with_reducible refine (HM2.out _).mono ?_; rintro e w2 ⟨rfl, rfl⟩)) | (go_at_call 27; refine (HC.out _).mono ?_; rintro e w2 ⟨rfl, rfl⟩) | fail)
  all_goals go_ret
  all_goals exact ⟨by rw [HF.out]; rfl, by first | exact HK.out | exact HKa.out _⟩
set_option maxHeartbeats 4000000 in
theorem mayBe_6 (v : NodeV) (w : World) (hk : v.kind = 6) : Calls Tryz.prog 17 #[.agg (nvC v).toArray] w fun e w' => e = .returned (.bool (mayB v)) ∧ Kept NoB w w' := by
  obtain ⟨w1, hw1⟩ : ∃ w1, w1 = w.alloc (.cells (nvC v).toArray 25) := ⟨_, rfl⟩
  have hob : w1.heap[w.heap.size]? = some (.cells (nvC v).toArray 25 (0, 0)) := by rw [hw1]; exact heap_alloc_new _ _
  have c0 : w1.cell? ⟨w.heap.size, 0, none⟩ = some (.int .i64 6) := by rw [obj_cell hob, ← hk]; rfl
  have c5 : w1.cell? ⟨w.heap.size, 5, none⟩ = some (.string v.tgt) := by rw [obj_cell hob]; rfl
  have c6 : w1.cell? ⟨w.heap.size, 6, none⟩ = some (.int .i64 v.major) := by rw [obj_cell hob]; rfl
  have c7 : w1.cell? ⟨w.heap.size, 7, none⟩ = some (.int .i64 v.minor) := by rw [obj_cell hob]; rfl
  have d8 : ∀ o, (w1.alloc o).cell? ⟨w.heap.size, 8, none⟩ = some (.int .i64 v.size) := fun o => ((Kept.refl NoB w1).alloc o).cell (by rw [obj_cell hob]; rfl)
  have d9 : ∀ o, (w1.alloc o).cell? ⟨w.heap.size, 9, none⟩ = some (.int .i64 v.links) := fun o => ((Kept.refl NoB w1).alloc o).cell (by rw [obj_cell hob]; rfl)
  have d10 : ∀ o, (w1.alloc o).cell? ⟨w.heap.size, 10, none⟩ = some (.int .i64 v.change) := fun o => ((Kept.refl NoB w1).alloc o).cell (by rw [obj_cell hob]; rfl)
  have HW := Lib.hid hw1; have HO := Lib.hid hob
  have HK : Hid (Kept NoB w w1) := Lib.hid (by rw [hw1]; exact (Kept.refl NoB w).alloc _)
  have HKa : Hid (∀ o, Kept NoB w (w1.alloc o)) := Lib.hid (fun o => HK.out.alloc o)
  have HS := Lib.hid (mayBeSet_any v)
  have HM1 := Lib.hid (within_any v.major 1048575); have HM2 := Lib.hid (within_any v.minor 1048575)
  have HC := Lib.hid (Tryz.strings_Contains_one v.tgt 0)
  have HB : Hid (mayB v = (v.tgt.toList.isEmpty && (decide (v.major = 0) && decide (v.minor = 0)) && setB v && decide (v.size = 0) && decide (v.links = 0) && decide (v.change = 0))) := Lib.hid (by
    unfold mayB setB; rw [hk]; rfl)
  clear hob hw1 hk
  obtain ⟨st, hst⟩ : ∃ st, st = setB v := ⟨_, rfl⟩
  rw [← hst] at HS HB
  clear hst
  go_enter Tryz.func17, Tryz.ntmps17
  go_upto_region 1 with fail
  rw [← HW.out]
  rcases Classical.em (v.tgt.toList = []) with t1 | t1
  rotate_left
  · have t2 : v.tgt.toList.isEmpty = false := by simpa using t1
    have HF : Hid (mayB v = false) := Lib.hid (by rw [HB.out]; rw [t2]; simp)
    clear HB
    go_wp2_with (first | (refine load_rowN (by rfl) (.tmp 1) rfl w.heap.size rfl v HO.out ?_) | (go_at_call 29; refine (HS.out _).mono ?_; rintro e w2 ⟨rfl, rfl⟩) | (go_at_call 28; first | (with_reducible refine (HM1.out _).mono ?_; rintro e w2 ⟨rfl, rfl⟩) | (with_reducible refine (HM2.out _).mono ?_; rintro e w2 ⟨rfl, rfl⟩)) | (go_at_call 27; refine (HC.out _).mono ?_; rintro e w2 ⟨rfl, rfl⟩) | fail)
    all_goals go_ret
    all_goals exact ⟨by rw [HF.out]; rfl, by first | exact HK.out | exact HKa.out _⟩
  have t2 : v.tgt.toList.isEmpty = true := by simpa using t1
  rcases Classical.em (v.major = 0) with j1 | j1
  rotate_left
  · have j2 : (v.major == 0) = false := by simpa using j1
    have HJ : Hid (decide (v.major = 0) = false) := Lib.hid (decide_eq_false j1)
    have HF : Hid (mayB v = false) := Lib.hid (by rw [HB.out]; rw [t2]; rw [HJ.out]; simp)
    clear HB
    go_wp2_with (first | (refine load_rowN (by rfl) (.tmp 1) rfl w.heap.size rfl v HO.out ?_) | (go_at_call 29; refine (HS.out _).mono ?_; rintro e w2 ⟨rfl, rfl⟩) | (go_at_call 28; first | (with_reducible refine (HM1.out _).mono ?_; rintro e w2 ⟨rfl, rfl⟩) | (with_reducible refine (HM2.out _).mono ?_; rintro e w2 ⟨rfl, rfl⟩)) | (go_at_call 27; refine (HC.out _).mono ?_; rintro e w2 ⟨rfl, rfl⟩) | fail)
    all_goals go_ret
    all_goals exact ⟨by rw [HF.out]; rfl, by first | exact HK.out | exact HKa.out _⟩
  have HJ : Hid (decide (v.major = 0) = true) := Lib.hid (decide_eq_true j1)
  rw [j1] at c6
  have HJ1 := Lib.hid j1
  clear j1
  rcases Classical.em (v.minor = 0) with n1 | n1
  rotate_left
  · have n2 : (v.minor == 0) = false := by simpa using n1
    have HN : Hid (decide (v.minor = 0) = false) := Lib.hid (decide_eq_false n1)
    have HF : Hid (mayB v = false) := Lib.hid (by rw [HB.out]; rw [t2]; rw [HJ.out]; rw [HN.out]; simp)
    clear HB
    go_wp2_with (first | (refine load_rowN (by rfl) (.tmp 1) rfl w.heap.size rfl v HO.out ?_) | (go_at_call 29; refine (HS.out _).mono ?_; rintro e w2 ⟨rfl, rfl⟩) | (go_at_call 28; first | (with_reducible refine (HM1.out _).mono ?_; rintro e w2 ⟨rfl, rfl⟩) | (with_reducible refine (HM2.out _).mono ?_; rintro e w2 ⟨rfl, rfl⟩)) | (go_at_call 27; refine (HC.out _).mono ?_; rintro e w2 ⟨rfl, rfl⟩) | fail)
    all_goals go_ret
    all_goals exact ⟨by rw [HF.out]; rfl, by first | exact HK.out | exact HKa.out _⟩
  have HN : Hid (decide (v.minor = 0) = true) := Lib.hid (decide_eq_true n1)
  rw [n1] at c7
  have HN1 := Lib.hid n1
  clear n1
  cases st
  · have _u := 0
    have HF : Hid (mayB v = false) := Lib.hid (by rw [HB.out]; rw [t2]; rw [HJ.out]; rw [HN.out]; simp)
    clear HB
    go_wp2_with (first | (refine load_rowN (by rfl) (.tmp 1) rfl w.heap.size rfl v HO.out ?_) | (go_at_call 29; refine (HS.out _).mono ?_; rintro e w2 ⟨rfl, rfl⟩) | (go_at_call 28; first | (with_reducible refine (HM1.out _).mono ?_; rintro e w2 ⟨rfl, rfl⟩) | (with_reducible refine (HM2.out _).mono ?_; rintro e w2 ⟨rfl, rfl⟩)) | (go_at_call 27; refine (HC.out _).mono ?_; rintro e w2 ⟨rfl, rfl⟩) | fail)
    all_goals go_ret
    all_goals exact ⟨by rw [HF.out]; rfl, by first | exact HK.out | exact HKa.out _⟩
  rcases Classical.em (v.size = 0) with s1 | s1
  rotate_left
  · have s2 : (v.size == 0) = false := by simpa using s1
    have Hs3 : Hid (decide (v.size = 0) = false) := Lib.hid (decide_eq_false s1)
    have HF : Hid (mayB v = false) := Lib.hid (by rw [HB.out]; rw [t2]; rw [HJ.out]; rw [HN.out]; rw [Hs3.out]; simp)
    clear HB
    go_wp2_with (first | (refine load_rowN (by rfl) (.tmp 1) rfl w.heap.size rfl v HO.out ?_) | (go_at_call 29; refine (HS.out _).mono ?_; rintro e w2 ⟨rfl, rfl⟩) | (go_at_call 28; first | (with_reducible refine (HM1.out _).mono ?_; rintro e w2 ⟨rfl, rfl⟩) | (with_reducible refine (HM2.out _).mono ?_; rintro e w2 ⟨rfl, rfl⟩)) | (go_at_call 27; refine (HC.out _).mono ?_; rintro e w2 ⟨rfl, rfl⟩) | fail)
    all_goals go_ret
    all_goals exact ⟨by rw [HF.out]; rfl, by first | exact HK.out | exact HKa.out _⟩
  have Hs3 : Hid (decide (v.size = 0) = true) := Lib.hid (decide_eq_true s1)
  rw [s1] at d8
  have Hs4 := Lib.hid s1
  clear s1
  rcases Classical.em (v.links = 0) with l1 | l1
  rotate_left
  · have l2 : (v.links == 0) = false := by simpa using l1
    have Hl3 : Hid (decide (v.links = 0) = false) := Lib.hid (decide_eq_false l1)
    have HF : Hid (mayB v = false) := Lib.hid (by rw [HB.out]; rw [t2]; rw [HJ.out]; rw [HN.out]; rw [Hs3.out]; rw [Hl3.out]; simp)
    clear HB
    go_wp2_with (first | (refine load_rowN (by rfl) (.tmp 1) rfl w.heap.size rfl v HO.out ?_) | (go_at_call 29; refine (HS.out _).mono ?_; rintro e w2 ⟨rfl, rfl⟩) | (go_at_call 28; first | (with_reducible refine (HM1.out _).mono ?_; rintro e w2 ⟨rfl, rfl⟩) | (with_reducible refine (HM2.out _).mono ?_; rintro e w2 ⟨rfl, rfl⟩)) | (go_at_call 27; refine (HC.out _).mono ?_; rintro e w2 ⟨rfl, rfl⟩) | fail)
    all_goals go_ret
    all_goals exact ⟨by rw [HF.out]; rfl, by first | exact HK.out | exact HKa.out _⟩
  have Hl3 : Hid (decide (v.links = 0) = true) := Lib.hid (decide_eq_true l1)
  rw [l1] at d9
  have Hl4 := Lib.hid l1
  clear l1
  rcases Classical.em (v.change = 0) with h1 | h1
  rotate_left
  · have h2 : (v.change == 0) = false := by simpa using h1
    have Hh3 : Hid (decide (v.change = 0) = false) := Lib.hid (decide_eq_false h1)
    have HF : Hid (mayB v = false) := Lib.hid (by rw [HB.out]; rw [t2]; rw [HJ.out]; rw [HN.out]; rw [Hs3.out]; rw [Hl3.out]; rw [Hh3.out]; simp)
    clear HB
    go_wp2_with (first | (refine load_rowN (by rfl) (.tmp 1) rfl w.heap.size rfl v HO.out ?_) | (go_at_call 29; refine (HS.out _).mono ?_; rintro e w2 ⟨rfl, rfl⟩) | (go_at_call 28; first | (with_reducible refine (HM1.out _).mono ?_; rintro e w2 ⟨rfl, rfl⟩) | (with_reducible refine (HM2.out _).mono ?_; rintro e w2 ⟨rfl, rfl⟩)) | (go_at_call 27; refine (HC.out _).mono ?_; rintro e w2 ⟨rfl, rfl⟩) | fail)
    all_goals go_ret
    all_goals exact ⟨by rw [HF.out]; rfl, by first | exact HK.out | exact HKa.out _⟩
  have Hh3 : Hid (decide (v.change = 0) = true) := Lib.hid (decide_eq_true h1)
  rw [h1] at d10
  have Hh4 := Lib.hid h1
  clear h1
  have HF : Hid (mayB v = true) := Lib.hid (by rw [HB.out]; rw [t2]; rw [HJ.out]; rw [HN.out]; rw [Hs3.out]; rw [Hl3.out]; rw [Hh3.out]; simp)
  clear HB
  go_wp2_with (first | (refine load_rowN (by rfl) (.tmp 1) rfl w.heap.size rfl v HO.out ?_) | (go_at_call 29; refine (HS.out _).mono ?_; rintro e w2 ⟨rfl, rfl⟩) | (go_at_call 28; first | (with_reducible refine (HM1.out _).mono ?_; rintro e w2 ⟨rfl, rfl⟩) | (with_reducible refine (HM2.out _).mono ?_; rintro e w2 ⟨rfl, rfl⟩)) | (go_at_call 27; refine (HC.out _).mono ?_; rintro e w2 ⟨rfl, rfl⟩) | fail)
  all_goals go_ret
  all_goals exact ⟨by rw [HF.out]; rfl, by first | exact HK.out | exact HKa.out _⟩
set_option maxHeartbeats 4000000 in
theorem mayBe_7 (v : NodeV) (w : World) (hk : v.kind = 7) : Calls Tryz.prog 17 #[.agg (nvC v).toArray] w fun e w' => e = .returned (.bool (mayB v)) ∧ Kept NoB w w' := by
  obtain ⟨w1, hw1⟩ : ∃ w1, w1 = w.alloc (.cells (nvC v).toArray 25) := ⟨_, rfl⟩
  have hob : w1.heap[w.heap.size]? = some (.cells (nvC v).toArray 25 (0, 0)) := by rw [hw1]; exact heap_alloc_new _ _
  have c0 : w1.cell? ⟨w.heap.size, 0, none⟩ = some (.int .i64 7) := by rw [obj_cell hob, ← hk]; rfl
  have c5 : w1.cell? ⟨w.heap.size, 5, none⟩ = some (.string v.tgt) := by rw [obj_cell hob]; rfl
  have c6 : w1.cell? ⟨w.heap.size, 6, none⟩ = some (.int .i64 v.major) := by rw [obj_cell hob]; rfl
  have c7 : w1.cell? ⟨w.heap.size, 7, none⟩ = some (.int .i64 v.minor) := by rw [obj_cell hob]; rfl
  have d8 : ∀ o, (w1.alloc o).cell? ⟨w.heap.size, 8, none⟩ = some (.int .i64 v.size) := fun o => ((Kept.refl NoB w1).alloc o).cell (by rw [obj_cell hob]; rfl)
  have d9 : ∀ o, (w1.alloc o).cell? ⟨w.heap.size, 9, none⟩ = some (.int .i64 v.links) := fun o => ((Kept.refl NoB w1).alloc o).cell (by rw [obj_cell hob]; rfl)
  have d10 : ∀ o, (w1.alloc o).cell? ⟨w.heap.size, 10, none⟩ = some (.int .i64 v.change) := fun o => ((Kept.refl NoB w1).alloc o).cell (by rw [obj_cell hob]; rfl)
  have HW := Lib.hid hw1; have HO := Lib.hid hob
  have HK : Hid (Kept NoB w w1) := Lib.hid (by rw [hw1]; exact (Kept.refl NoB w).alloc _)
  have HKa : Hid (∀ o, Kept NoB w (w1.alloc o)) := Lib.hid (fun o => HK.out.alloc o)
  have HS := Lib.hid (mayBeSet_any v)
  have HM1 := Lib.hid (within_any v.major 1048575); have HM2 := Lib.hid (within_any v.minor 1048575)
  have HC := Lib.hid (Tryz.strings_Contains_one v.tgt 0)
  have HB : Hid (mayB v = (v.tgt.toList.isEmpty && (decide (v.major = 0) && decide (v.minor = 0)) && setB v && decide (v.size = 0) && decide (v.links = 0) && decide (v.change = 0))) := Lib.hid (by
    unfold mayB setB; rw [hk]; rfl)
  clear hob hw1 hk
  obtain ⟨st, hst⟩ : ∃ st, st = setB v := ⟨_, rfl⟩
  rw [← hst] at HS HB
  clear hst
  go_enter Tryz.func17, Tryz.ntmps17
  go_upto_region 1 with fail
  rw [← HW.out]
  rcases Classical.em (v.tgt.toList = []) with t1 | t1
  rotate_left
  · have t2 : v.tgt.toList.isEmpty = false := by simpa using t1
    have HF : Hid (mayB v = false) := Lib.hid (by rw [HB.out]; rw [t2]; simp)
    clear HB
    go_wp2_with (first | (refine load_rowN (by rfl) (.tmp 1) rfl w.heap.size rfl v HO.out ?_) | (go_at_call 29; refine (HS.out _).mono ?_; rintro e w2 ⟨rfl, rfl⟩) | (go_at_call 28; first | (with_reducible refine (HM1.out _).mono ?_; rintro e w2 ⟨rfl, rfl⟩) | (with_reducible refine (HM2.out _).mono ?_; rintro e w2 ⟨rfl, rfl⟩)) | (go_at_call 27; refine (HC.out _).mono ?_; rintro e w2 ⟨rfl, rfl⟩) | fail)
    all_goals go_ret
    all_goals exact ⟨by rw [HF.out]; rfl, by first | exact HK.out | exact HKa.out _⟩
  have t2 : v.tgt.toList.isEmpty = true := by simpa using t1
  rcases Classical.em (v.major = 0) with j1 | j1
  rotate_left
  · have j2 : (v.major == 0) = false := by simpa using j1
    have HJ : Hid (decide (v.major = 0) = false) := Lib.hid (decide_eq_false j1)
    have HF : Hid (mayB v = false) := Lib.hid (by rw [HB.out]; rw [t2]; rw [HJ.out]; simp)
    clear HB
    go_wp2_with (first | (refine load_rowN (by rfl) (.tmp 1) rfl w.heap.size rfl v HO.out ?_) | (go_at_call 29; refine (HS.out _).mono ?_; rintro e w2 ⟨rfl, rfl⟩) | (go_at_call 28; first | (with_reducible refine (HM1.out _).mono ?_; rintro e w2 ⟨rfl, rfl⟩) | (with_reducible refine (HM2.out _).mono ?_; rintro e w2 ⟨rfl, rfl⟩)) | (go_at_call 27; refine (HC.out _).mono ?_; rintro e w2 ⟨rfl, rfl⟩) | fail)
    all_goals go_ret
    all_goals exact ⟨by rw [HF.out]; rfl, by first | exact HK.out | exact HKa.out _⟩
  have HJ : Hid (decide (v.major = 0) = true) := Lib.hid (decide_eq_true j1)
  rw [j1] at c6
  have HJ1 := Lib.hid j1
  clear j1
  rcases Classical.em (v.minor = 0) with n1 | n1
  rotate_left
  · have n2 : (v.minor == 0) = false := by simpa using n1
    have HN : Hid (decide (v.minor = 0) = false) := Lib.hid (decide_eq_false n1)
    have HF : Hid (mayB v = false) := Lib.hid (by rw [HB.out]; rw [t2]; rw [HJ.out]; rw [HN.out]; simp)
    clear HB
    go_wp2_with (first | (refine load_rowN (by rfl) (.tmp 1) rfl w.heap.size rfl v HO.out ?_) | (go_at_call 29; refine (HS.out _).mono ?_; rintro e w2 ⟨rfl, rfl⟩) | (go_at_call 28; first | (with_reducible refine (HM1.out _).mono ?_; rintro e w2 ⟨rfl, rfl⟩) | (with_reducible refine (HM2.out _).mono ?_; rintro e w2 ⟨rfl, rfl⟩)) | (go_at_call 27; refine (HC.out _).mono ?_; rintro e w2 ⟨rfl, rfl⟩) | fail)
    all_goals go_ret
    all_goals exact ⟨by rw [HF.out]; rfl, by first | exact HK.out | exact HKa.out _⟩
  have HN : Hid (decide (v.minor = 0) = true) := Lib.hid (decide_eq_true n1)
  rw [n1] at c7
  have HN1 := Lib.hid n1
  clear n1
  cases st
  · have _u := 0
    have HF : Hid (mayB v = false) := Lib.hid (by rw [HB.out]; rw [t2]; rw [HJ.out]; rw [HN.out]; simp)
    clear HB
    go_wp2_with (first | (refine load_rowN (by rfl) (.tmp 1) rfl w.heap.size rfl v HO.out ?_) | (go_at_call 29; refine (HS.out _).mono ?_; rintro e w2 ⟨rfl, rfl⟩) | (go_at_call 28; first | (with_reducible refine (HM1.out _).mono ?_; rintro e w2 ⟨rfl, rfl⟩) | (with_reducible refine (HM2.out _).mono ?_; rintro e w2 ⟨rfl, rfl⟩)) | (go_at_call 27; refine (HC.out _).mono ?_; rintro e w2 ⟨rfl, rfl⟩) | fail)
    all_goals go_ret
    all_goals exact ⟨by rw [HF.out]; rfl, by first | exact HK.out | exact HKa.out _⟩
  rcases Classical.em (v.size = 0) with s1 | s1
  rotate_left
  · have s2 : (v.size == 0) = false := by simpa using s1
    have Hs3 : Hid (decide (v.size = 0) = false) := Lib.hid (decide_eq_false s1)
    have HF : Hid (mayB v = false) := Lib.hid (by rw [HB.out]; rw [t2]; rw [HJ.out]; rw [HN.out]; rw [Hs3.out]; simp)
    clear HB
    go_wp2_with (first | (refine load_rowN (by rfl) (.tmp 1) rfl w.heap.size rfl v HO.out ?_) | (go_at_call 29; refine (HS.out _).mono ?_; rintro e w2 ⟨rfl, rfl⟩) | (go_at_call 28; first | (with_reducible refine (HM1.out _).mono ?_; rintro e w2 ⟨rfl, rfl⟩) | (with_reducible refine (HM2.out _).mono ?_; rintro e w2 ⟨rfl, rfl⟩)) | (go_at_call 27; refine (HC.out _).mono ?_; rintro e w2 ⟨rfl, rfl⟩) | fail)
    all_goals go_ret
    all_goals exact ⟨by rw [HF.out]; rfl, by first | exact HK.out | exact HKa.out _⟩
  have Hs3 : Hid (decide (v.size = 0) = true) := Lib.hid (decide_eq_true s1)
  rw [s1] at d8
  have Hs4 := Lib.hid s1
  clear s1
  rcases Classical.em (v.links = 0) with l1 | l1
  rotate_left
  · have l2 : (v.links == 0) = false := by simpa using l1
    have Hl3 : Hid (decide (v.links = 0) = false) := Lib.hid (decide_eq_false l1)
    have HF : Hid (mayB v = false) := Lib.hid (by rw [HB.out]; rw [t2]; rw [HJ.out]; rw [HN.out]; rw [Hs3.out]; rw [Hl3.out]; simp)
    clear HB
    go_wp2_with (first | (refine load_rowN (by rfl) (.tmp 1) rfl w.heap.size rfl v HO.out ?_) | (go_at_call 29; refine (HS.out _).mono ?_; rintro e w2 ⟨rfl, rfl⟩) | (go_at_call 28; first | (with_reducible refine (HM1.out _).mono ?_; rintro e w2 ⟨rfl, rfl⟩) | (with_reducible refine (HM2.out _).mono ?_; rintro e w2 ⟨rfl, rfl⟩)) | (go_at_call 27; refine (HC.out _).mono ?_; rintro e w2 ⟨rfl, rfl⟩) | fail)
    all_goals go_ret
    all_goals exact ⟨by rw [HF.out]; rfl, by first | exact HK.out | exact HKa.out _⟩
  have Hl3 : Hid (decide (v.links = 0) = true) := Lib.hid (decide_eq_true l1)
  rw [l1] at d9
  have Hl4 := Lib.hid l1
  clear l1
  rcases Classical.em (v.change = 0) with h1 | h1
  rotate_left
  · have h2 : (v.change == 0) = false := by simpa using h1
    have Hh3 : Hid (decide (v.change = 0) = false) := Lib.hid (decide_eq_false h1)
    have HF : Hid (mayB v = false) := Lib.hid (by rw [HB.out]; rw [t2]; rw [HJ.out]; rw [HN.out]; rw [Hs3.out]; rw [Hl3.out]; rw [Hh3.out]; simp)
    clear HB
    go_wp2_with (first | (refine load_rowN (by rfl) (.tmp 1) rfl w.heap.size rfl v HO.out ?_) | (go_at_call 29; refine (HS.out _).mono ?_; rintro e w2 ⟨rfl, rfl⟩) | (go_at_call 28; first | (with_reducible refine (HM1.out _).mono ?_; rintro e w2 ⟨rfl, rfl⟩) | (with_reducible refine (HM2.out _).mono ?_; rintro e w2 ⟨rfl, rfl⟩)) | (go_at_call 27; refine (HC.out _).mono ?_; rintro e w2 ⟨rfl, rfl⟩) | fail)
    all_goals go_ret
    all_goals exact ⟨by rw [HF.out]; rfl, by first | exact HK.out | exact HKa.out _⟩
  have Hh3 : Hid (decide (v.change = 0) = true) := Lib.hid (decide_eq_true h1)
  rw [h1] at d10
  have Hh4 := Lib.hid h1
  clear h1
  have HF : Hid (mayB v = true) := Lib.hid (by rw [HB.out]; rw [t2]; rw [HJ.out]; rw [HN.out]; rw [Hs3.out]; rw [Hl3.out]; rw [Hh3.out]; simp)
  clear HB
  go_wp2_with (first | (refine load_rowN (by rfl) (.tmp 1) rfl w.heap.size rfl v HO.out ?_) | (go_at_call 29; refine (HS.out _).mono ?_; rintro e w2 ⟨rfl, rfl⟩) | (go_at_call 28; first | (with_reducible refine (HM1.out _).mono ?_; rintro e w2 ⟨rfl, rfl⟩) | (with_reducible refine (HM2.out _).mono ?_; rintro e w2 ⟨rfl, rfl⟩)) | (go_at_call 27; refine (HC.out _).mono ?_; rintro e w2 ⟨rfl, rfl⟩) | fail)
  all_goals go_ret
  all_goals exact ⟨by rw [HF.out]; rfl, by first | exact HK.out | exact HKa.out _⟩
end Go.Proofs.YtjjgadanobeamaaGreatDoor
