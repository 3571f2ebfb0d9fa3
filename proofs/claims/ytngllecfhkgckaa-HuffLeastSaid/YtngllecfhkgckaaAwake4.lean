/-
  What the document fixes of stage 4.
-/
import Derived.Test.YtngllecfhkgckaaHuffU
namespace Go.Proofs.Ytngllecfhkgckaa
open Go.RowKit
set_option linter.unusedVariables false
set_option linter.unusedSimpArgs false

theorem rd_new (w : World) (ws : List Int) (cs : Array Value) (h : cs = (ws.map (Value.int .i64)).toArray) : RdI (w.alloc (.cells cs 3)) (w.heap.size + 1) (some ⟨w.heap.size, 0, none⟩) ws := by
  intro i hi
  refine ⟨w.heap.size, 0, rfl, by omega, ?_⟩
  rw [Nat.zero_add, cell_new (k := w.heap.size) i rfl, h]
  simp [List.getD, hi]
theorem RdI.keptNo {w w' : World} {B : Nat} {ao : Option Addr} {zs : List Int} (h : RdI w B ao zs) (hk : Kept NoB w w') : RdI w' B ao zs := h.kept hk (fun _ _ h => h)

theorem len_a (w : World) : Calls Try.prog 8 #[.slice (some ⟨w.heap.size, 0, none⟩) 3 3, .int .i64 15] (w.alloc (.cells #[.int .i64 1, .int .i64 1, .int .i64 2] 3)) (LensP (w.alloc (.cells #[.int .i64 1, .int .i64 1, .int .i64 2] 3)) [2, 2, 1]) := by
  have := lengths_many (some ⟨w.heap.size, 0, none⟩) 3 (w.heap.size + 1) [1, 1, 2] 15 32768 (w.alloc (.cells #[.int .i64 1, .int .i64 1, .int .i64 2] 3)) (rd_new w _ _ rfl) (fun z hz => by simp at hz; omega) (by decide +kernel)
    (by rw [three_leaves]; intro i hi; match i with | 0 => decide | 1 => decide | n + 2 => simp at hi; omega) (by decide +kernel) (by decide +kernel) (by decide +kernel) (by rw [three_leaves]; decide) (by rw [three_leaves]; decide)
  rw [many_three] at this
  exact this
theorem len_b (w : World) : Calls Try.prog 8 #[.slice (some ⟨w.heap.size, 0, none⟩) 2 2, .int .i64 3] (w.alloc (.cells #[.int .i64 0, .int .i64 7] 3)) (LensP (w.alloc (.cells #[.int .i64 0, .int .i64 7] 3)) [0, 1]) :=
  lengths_one (some ⟨w.heap.size, 0, none⟩) 2 (w.heap.size + 1) [0, 7] 3 8 1 7 (w.alloc (.cells #[.int .i64 0, .int .i64 7] 3)) (rd_new w _ _ rfl) (fun z hz => by simp at hz; omega) (by decide +kernel)
    (by rw [two_leaves]; intro i hi; simp at hi) (by decide +kernel) (by decide +kernel) (by decide +kernel) two_leaves (by decide +kernel)
theorem len_c (w : World) : Calls Try.prog 8 #[.slice (some ⟨w.heap.size, 0, none⟩) 3 3, .int .i64 1] (w.alloc (.cells #[.int .i64 1, .int .i64 1, .int .i64 1] 3)) fun e w' => e = .returned (.tuple #[.slice none 0 0, .int .i64 1]) ∧ Kept NoB (w.alloc (.cells #[.int .i64 1, .int .i64 1, .int .i64 1] 3)) w' :=
  lengths_over (some ⟨w.heap.size, 0, none⟩) 3 (w.heap.size + 1) [1, 1, 1] 1 2 (w.alloc (.cells #[.int .i64 1, .int .i64 1, .int .i64 1] 3)) (rd_new w _ _ rfl) (fun z hz => by simp at hz; omega) (by decide +kernel)
    (by rw [show leavesL 0 [1, 1, 1] = [(0, 1), (1, 1), (2, 1)] by decide]; intro i hi; match i with | 0 => decide | 1 => decide | n + 2 => simp at hi; omega) (by decide +kernel) (by decide +kernel) (by decide +kernel)
theorem kraft_d (w : World) : Calls Try.prog 13 #[.slice (some ⟨w.heap.size, 0, none⟩) 4 4] (w.alloc (.cells #[.int .i64 1, .int .i64 15, .int .i64 0, .int .i64 99] 3)) fun e w' => e = .returned (.tuple #[.int .i64 16385, .int .i64 32768]) ∧ Kept NoB (w.alloc (.cells #[.int .i64 1, .int .i64 15, .int .i64 0, .int .i64 99] 3)) w' :=
  kraft_calls (some ⟨w.heap.size, 0, none⟩) 4 (w.heap.size + 1) [1, 15, 0, 99] (w.alloc (.cells #[.int .i64 1, .int .i64 15, .int .i64 0, .int .i64 99] 3)) (rd_new w _ _ rfl) (fun z hz => by simp at hz; omega) (by decide)
theorem cost_e (w : World) (a : Option Addr) (c B : Nat) (hr : RdI w B a [2, 2, 1]) : Calls Try.prog 10 #[.slice (some ⟨w.heap.size, 0, none⟩) 3 3, .slice a 3 c] (w.alloc (.cells #[.int .i64 1, .int .i64 1, .int .i64 2] 3)) fun e w' => e = .returned (.int .i64 6) ∧ Kept NoB (w.alloc (.cells #[.int .i64 1, .int .i64 1, .int .i64 2] 3)) w' :=
  cost_calls (some ⟨w.heap.size, 0, none⟩) a 3 c (w.heap.size + 1) B [1, 1, 2] [2, 2, 1] (w.alloc (.cells #[.int .i64 1, .int .i64 1, .int .i64 2] 3)) (rd_new w _ _ rfl) (hr.keptNo ((Kept.refl _ _).alloc _)) (fun z hz => by simp at hz; omega) (fun z hz => by simp at hz; omega) (by decide) (by decide)

set_option maxRecDepth 20000 in
set_option maxHeartbeats 1000000 in
theorem awake_any (w : World) : Calls Try.prog 9 #[] w fun e w' => e = .returned (.bool true) ∧ Kept NoB w w' := by
  have HA := Lib.hid len_a; have HB := Lib.hid len_b; have HC := Lib.hid len_c; have HD := Lib.hid kraft_d; have HE := Lib.hid cost_e
  go_enter Try.func9, Try.ntmps9
  go_wp2_with fail
  refine (HA.out _).mono ?_
  intro e w1 hp
  obtain ⟨a1, c1, rfl, hr1, hk1⟩ := hp.reads
  have HK1 := Lib.hid (((Kept.refl NoB w).alloc (.cells #[.int .i64 1, .int .i64 1, .int .i64 2] 3)).trans hk1)
  have HR1 := Lib.hid hr1
  clear hp hr1 hk1
  go_wp2_with fail
  refine (HB.out _).mono ?_
  intro e w2 hp
  obtain ⟨a2, c2, rfl, hr2, hk2⟩ := hp.reads
  have hk12 := ((Kept.refl NoB w1).alloc (.cells #[.int .i64 0, .int .i64 7] 3)).trans hk2
  have HR12 := Lib.hid (HR1.out.keptNo hk12)
  have HK2 := Lib.hid (HK1.out.trans hk12)
  have HR2 := Lib.hid hr2
  clear hp hr2 hk2 hk12 HR1 HK1
  go_wp2_with fail
  refine (HC.out _).mono ?_
  rintro e w3 ⟨rfl, hk3⟩
  have hk23 := ((Kept.refl NoB w2).alloc (.cells #[.int .i64 1, .int .i64 1, .int .i64 1] 3)).trans hk3
  have HR13 := Lib.hid (HR12.out.keptNo hk23)
  have HR23 := Lib.hid (HR2.out.keptNo hk23)
  have HK3 := Lib.hid (HK2.out.trans hk23)
  clear hk3 hk23 HR12 HR2 HK2
  go_wp2_with fail
  refine (HD.out _).mono ?_
  rintro e w4 ⟨rfl, hk4⟩
  have hk34 := ((Kept.refl NoB w3).alloc (.cells #[.int .i64 1, .int .i64 15, .int .i64 0, .int .i64 99] 3)).trans hk4
  have HR14 := Lib.hid (HR13.out.keptNo hk34)
  have HR24 := Lib.hid (HR23.out.keptNo hk34)
  have HK4 := Lib.hid (HK3.out.trans hk34)
  clear hk4 hk34 HR13 HR23 HK3
  go_wp2_with fail
  refine (HE.out _ _ _ _ HR14.out).mono ?_
  rintro e w5 ⟨rfl, hk5⟩
  have hk45 := ((Kept.refl NoB w4).alloc (.cells #[.int .i64 1, .int .i64 1, .int .i64 2] 3)).trans hk5
  have HR25 := HR24.out.keptNo hk45
  have HK5 := Lib.hid (HK4.out.trans hk45)
  obtain ⟨g, off, rfl, _, m0⟩ := HR25 0 (by decide)
  obtain ⟨g', off', he, _, m1⟩ := HR25 1 (by decide)
  cases he
  simp only [Nat.add_zero, List.getD_cons_zero, List.getD_cons_succ] at m0 m1
  clear hk5 hk45 HR14 HR24 HK4 HR25
  go_wp2
  go_ret
  exact ⟨rfl, HK5.out⟩
end Go.Proofs.Ytngllecfhkgckaa
