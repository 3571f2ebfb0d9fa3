/-
  What layer 6's statements ask of themselves first.
-/
import Derived.Test.YtkhkcmekjjihkaaTokD
import Derived.Test.YtkhkcmekjjihkaaLzC
namespace Go.Proofs.Ytkhkcmekjjihkaa
open Go.RowKit
set_option linter.unusedVariables false
set_option linter.unusedSimpArgs false

theorem toks_lit {w : World} {g : Nat} {cs : Array Value} {t : TypeId} (ts : List Tk) (h : w.heap[g]? = some (.cells cs t (0, 0))) (hc : ∀ i, i < ts.length → cs[i * 3]? = some (.int .i64 (ts.getD i ⟨0, 0, 0⟩).l) ∧ cs[i * 3 + 1]? = some (.int .i64 (ts.getD i ⟨0, 0, 0⟩).d) ∧ cs[i * 3 + 2]? = some (.int .u8 (ts.getD i ⟨0, 0, 0⟩).c)) : Toks w (some ⟨g, 0, none⟩) ts := by
  intro i hi
  obtain ⟨h1, h2, h3⟩ := hc i hi
  exact ⟨g, 0, rfl, by rw [obj_cell h, Nat.zero_add]; exact h1, by rw [obj_cell h, Nat.zero_add]; exact h2, by rw [obj_cell h, Nat.zero_add]; exact h3⟩

set_option maxRecDepth 100000 in
set_option maxHeartbeats 4000000 in
theorem awake6 (w : World) : Calls Try.prog 10 #[] w fun e w' => e = .returned (.bool true) ∧ Below w.heap.size w w' := by
  have x1 : expF 100 [⟨0, 0, 97⟩, ⟨3, 1, 0⟩] [] 0 = ([97, 97, 97, 97], 2, 0) := by decide
  have x2 : expF 100 [⟨3, 1, 0⟩] [] 0 = ([], 0, 4) := by decide
  have HX1 := Lib.hid x1; have HX2 := Lib.hid x2
  clear x1 x2
  go_enter Try.func10, Try.ntmps10
  go_wp2_with fail
  refine (expand_any _ _ _ [⟨0, 0, 97⟩, ⟨3, 1, 0⟩] 100 _ rfl ?t1 (by intro t ht; simp at ht; rcases ht with rfl | rfl <;> (unfold Tk.wf; decide)) (by decide) (by decide)).mono ?_
  case t1 =>
    refine toks_lit _ (heap_alloc_new _ _) ?_
    intro i hi
    match i, hi with
    | 0, _ => exact ⟨rfl, rfl, rfl⟩
    | 1, _ => exact ⟨rfl, rfl, rfl⟩
  rintro e w1 ⟨a1, c1, rfl, HM1⟩
  rw [HX1.out] at HM1 ⊢
  have HK1 : Hid (Kept NoB w w1) := ((Kept.refl NoB w).alloc _).trans HM1.out.2.2
  go_wp2_with fail
  refine (expand_any _ _ _ [⟨3, 1, 0⟩] 100 _ rfl ?t2 (by intro t ht; simp at ht; subst ht; unfold Tk.wf; decide) (by decide) (by decide)).mono ?_
  case t2 =>
    refine toks_lit _ (heap_alloc_new _ _) ?_
    intro i hi
    match i, hi with
    | 0, _ => exact ⟨rfl, rfl, rfl⟩
  rintro e w2 ⟨a2, c2, rfl, HM2⟩
  rw [HX2.out] at HM2 ⊢
  have hk12 : Kept NoB w1 w2 := ((Kept.refl NoB w1).alloc _).trans HM2.out.2.2
  have hr := HM1.out.reads.keptNo hk12
  have hcv := conv_reads (n := 4) (cap := c1) hr rfl (own_nil HM1.out.1)
  have e1 : strOfNums [97, 97, 97, 97] = ⟨#[97, 97, 97, 97]⟩ := by decide
  rw [e1] at hcv
  have HK2 := Lib.hid (HK1.out.trans hk12)
  clear hk12 hr HM1 HM2 HK1
  go_wp2_with fail
  refine (lenSym_last _).mono ?_
  rintro e w3 ⟨rfl, rfl⟩
  go_wp2_with fail
  refine (ok_any ⟨0, 0, 5⟩ _).mono ?_
  rintro e w4 ⟨rfl, hk4⟩
  have hB := (HK2.out.trans hk4).belowNo (Below.refl _ _)
  have hok : (Tk.mk 0 0 5).ok = true := by decide
  rw [hok]
  clear hk4
  go_wp2
  go_ret
  exact ⟨rfl, hB⟩
end Go.Proofs.Ytkhkcmekjjihkaa
