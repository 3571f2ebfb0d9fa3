/-
  What the document fixes of codes.
-/
import Derived.Test.YtokdlmpnokmniaaCanD
namespace Go.Proofs.Ytokdlmpnokmniaa
open Go.RowKit
set_option linter.unusedVariables false
set_option linter.unusedSimpArgs false

theorem new_no (a : Option Addr) (c B : Nat) (ls : List Int) (w : World) (hr : RdI w B a ls) (hs : Small 15 ls) (hl : ls.length ≤ 320) (hk : refS ls = 3) :
    Calls Try.prog 12 #[.slice a ls.length c] w fun e w' => e = .returned (.tuple #[.pointer none, .int .i64 3]) ∧ Kept NoB w w' := by
  have hRf := refused_calls a c B ls w hr hs hl
  rw [hk] at hRf
  have HRf := Lib.hid hRf
  obtain ⟨n, hn⟩ : ∃ n, n = ls.length := ⟨_, rfl⟩
  rw [← hn] at HRf ⊢
  clear hr hs hl hRf hn hk
  go_enter Try.func12, Try.ntmps12
  go_wp2_with fail
  refine HRf.out.mono ?_
  rintro e w1 ⟨rfl, hk⟩
  have HK := Lib.hid hk
  clear hk
  go_wp2
  go_ret2
  exact ⟨rfl, HK.out⟩
theorem codes_read {w w' : World} {zs : List Int} {e : Ending} (h : CodesP w zs e w') : ∃ a c, e = .returned (.tuple #[.slice a zs.length c, .int .i64 0]) ∧ (∀ i, i < zs.length → ∃ g, a = some ⟨g, 0, none⟩ ∧ w'.cell? ⟨g, i, none⟩ = some (.int .u32 (zs.getD i 0))) ∧ Kept NoB w w' := by
  obtain ⟨a, c, rfl, ho, hk⟩ := h
  refine ⟨a, c, rfl, fun i hi => ?_, hk⟩
  rcases ho.2 with ⟨_, hz⟩ | ⟨g, cc, cur, hv, _⟩
  · omega
  · simp at hv
    obtain ⟨rfl, rfl⟩ := hv
    refine ⟨g, rfl, ?_⟩
    rw [ho.cellAt i (by omega)]; simp [List.getD, hi]
theorem codes_a (w : World) : Calls Try.prog 10 #[.slice (some ⟨w.heap.size, 0, none⟩) 4 4] (w.alloc (.cells #[.int .i64 2, .int .i64 1, .int .i64 3, .int .i64 3] 3)) (CodesP (w.alloc (.cells #[.int .i64 2, .int .i64 1, .int .i64 3, .int .i64 3] 3)) [2, 0, 6, 7]) := by
  have := codes_calls (some ⟨w.heap.size, 0, none⟩) 4 (w.heap.size + 1) [2, 1, 3, 3] (w.alloc (.cells #[.int .i64 2, .int .i64 1, .int .i64 3, .int .i64 3] 3)) (rd_new w _ _ rfl) (fun z hz => by simp at hz; omega) (by decide) (by decide +kernel)
  rw [show codesL [2, 1, 3, 3] = [2, 0, 6, 7] by decide +kernel] at this
  exact this
theorem new_b (w : World) : Calls Try.prog 12 #[.slice (some ⟨w.heap.size, 0, none⟩) 2 2] (w.alloc (.cells #[.int .i64 1, .int .i64 2] 3)) fun e w' => e = .returned (.tuple #[.pointer none, .int .i64 3]) ∧ Kept NoB (w.alloc (.cells #[.int .i64 1, .int .i64 2] 3)) w' :=
  new_no (some ⟨w.heap.size, 0, none⟩) 2 (w.heap.size + 1) [1, 2] (w.alloc (.cells #[.int .i64 1, .int .i64 2] 3)) (rd_new w _ _ rfl) (fun z hz => by simp at hz; omega) (by decide) (by decide +kernel)
theorem kind_c (w : World) : Calls Try.prog 11 #[.slice (some ⟨w.heap.size, 0, none⟩) 2 2] (w.alloc (.cells #[.int .i64 1, .int .i64 1] 3)) fun e w' => e = .returned (.int .i64 3) ∧ Kept NoB (w.alloc (.cells #[.int .i64 1, .int .i64 1] 3)) w' := by
  have := kind_calls (some ⟨w.heap.size, 0, none⟩) 2 (w.heap.size + 1) [1, 1] (w.alloc (.cells #[.int .i64 1, .int .i64 1] 3)) (rd_new w _ _ rfl) (fun z hz => by simp at hz; omega) (by decide)
  rw [show kindS [1, 1] = 3 by decide +kernel] at this
  exact this
theorem kind_d (w : World) : Calls Try.prog 11 #[.slice (some ⟨w.heap.size, 0, none⟩) 2 2] (w.alloc (.cells #[.int .i64 0, .int .i64 1] 3)) fun e w' => e = .returned (.int .i64 2) ∧ Kept NoB (w.alloc (.cells #[.int .i64 0, .int .i64 1] 3)) w' := by
  have := kind_calls (some ⟨w.heap.size, 0, none⟩) 2 (w.heap.size + 1) [0, 1] (w.alloc (.cells #[.int .i64 0, .int .i64 1] 3)) (rd_new w _ _ rfl) (fun z hz => by simp at hz; omega) (by decide)
  rw [show kindS [0, 1] = 2 by decide +kernel] at this
  exact this

set_option maxRecDepth 20000 in
set_option maxHeartbeats 2000000 in
theorem awake_any (w : World) : Calls Try.prog 9 #[] w fun e w' => e = .returned (.bool true) ∧ Kept NoB w w' := by
  have HA := Lib.hid codes_a; have HB := Lib.hid new_b; have HC := Lib.hid kind_c; have HD := Lib.hid kind_d
  go_enter Try.func9, Try.ntmps9
  go_wp2_with fail
  refine (HA.out _).mono ?_
  intro e w1 hp
  obtain ⟨a1, c1, rfl, hr1, hk1⟩ := codes_read hp
  have HK1 := Lib.hid (((Kept.refl NoB w).alloc (.cells #[.int .i64 2, .int .i64 1, .int .i64 3, .int .i64 3] 3)).trans hk1)
  have HR1 := Lib.hid hr1
  clear hp hr1 hk1
  go_wp2_with fail
  refine (HB.out _).mono ?_
  rintro e w2 ⟨rfl, hk2⟩
  have hk12 := ((Kept.refl NoB w1).alloc (.cells #[.int .i64 1, .int .i64 2] 3)).trans hk2
  have HK2 := Lib.hid (HK1.out.trans hk12)
  obtain ⟨g, rfl, d0⟩ := HR1.out 0 (by decide)
  obtain ⟨g1, he1, d1⟩ := HR1.out 1 (by decide)
  obtain ⟨g2, he2, d2⟩ := HR1.out 2 (by decide)
  obtain ⟨g3, he3, d3⟩ := HR1.out 3 (by decide)
  cases he1
  cases he2
  cases he3
  simp only [List.getD_cons_zero, List.getD_cons_succ] at d0 d1 d2 d3
  have m0 := hk12.cell d0
  have m1 := hk12.cell d1
  have m2 := hk12.cell d2
  have m3 := hk12.cell d3
  clear hk2 hk12 HR1 HK1 d0 d1 d2 d3
  go_wp2_with fail
  refine (HC.out _).mono ?_
  rintro e w3 ⟨rfl, hk3⟩
  have HK3 := Lib.hid (HK2.out.trans (((Kept.refl NoB w2).alloc (.cells #[.int .i64 1, .int .i64 1] 3)).trans hk3))
  clear hk3 HK2
  go_wp2_with fail
  refine (HD.out _).mono ?_
  rintro e w4 ⟨rfl, hk4⟩
  have HK4 := Lib.hid (HK3.out.trans (((Kept.refl NoB w3).alloc (.cells #[.int .i64 0, .int .i64 1] 3)).trans hk4))
  clear hk4 HK3
  go_wp2
  go_ret
  exact ⟨rfl, HK4.out⟩
end Go.Proofs.Ytokdlmpnokmniaa
