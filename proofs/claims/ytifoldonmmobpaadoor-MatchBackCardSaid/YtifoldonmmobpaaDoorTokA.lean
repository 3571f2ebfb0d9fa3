/-
  Tokens: which may be, and which are refused.
-/
import Derived.Test.YtifoldonmmobpaaDoorKit
namespace Go.Proofs.YtifoldonmmobpaaDoor
open Go.RowKit
set_option linter.unusedVariables false
set_option linter.unusedSimpArgs false

/-- A token: how many, how far back, a byte. -/
structure Tk where
  l : Int
  d : Int
  c : Int
def Tk.v (t : Tk) : Value := .agg #[.int .i64 t.l, .int .i64 t.d, .int .u8 t.c]
def Tk.wf (t : Tk) : Prop := (-9223372036854775808 ≤ t.l ∧ t.l ≤ 9223372036854775807) ∧ (-9223372036854775808 ≤ t.d ∧ t.d ≤ 9223372036854775807) ∧ 0 ≤ t.c ∧ t.c < 256
def Tk.ok (t : Tk) : Bool := if t.l = 0 then decide (t.d = 0) else decide (3 ≤ t.l ∧ t.l ≤ 258 ∧ 1 ≤ t.d ∧ t.d ≤ 32768 ∧ t.c = 0)
/-- Why a token may not be put behind n bytes: 0, it may. -/
def Tk.no (t : Tk) (n : Nat) (most : Int) : Int := if t.ok = false then 1 else if (n : Int) < t.d then 4 else if most < n + (if t.l < 1 then 1 else t.l) then 5 else 0

theorem tok_no (l d c : Int) (h1 : l ≠ 0) (h : ¬ (3 ≤ l ∧ l ≤ 258 ∧ 1 ≤ d ∧ d ≤ 32768 ∧ c = 0)) : (Tk.mk l d c).ok = false := by
  unfold Tk.ok
  rw [if_neg h1]
  exact decide_eq_false h
set_option maxHeartbeats 2000000 in
theorem ok_any (t : Tk) (w : World) : Calls Tryd.prog 31 #[t.v] w fun e w' => e = .returned (.bool t.ok) ∧ Kept NoB w w' := by
  obtain ⟨l, d, c⟩ := t
  have hc0 : (w.alloc (.cells #[.int .i64 l, .int .i64 d, .int .u8 c] 26)).cell? ⟨w.heap.size, 0, none⟩ = some (.int .i64 l) := by rw [cell_new 0 rfl]; rfl
  have hc1 : (w.alloc (.cells #[.int .i64 l, .int .i64 d, .int .u8 c] 26)).cell? ⟨w.heap.size, 1, none⟩ = some (.int .i64 d) := by rw [cell_new 1 rfl]; rfl
  have hc2 : (w.alloc (.cells #[.int .i64 l, .int .i64 d, .int .u8 c] 26)).cell? ⟨w.heap.size, 2, none⟩ = some (.int .u8 c) := by rw [cell_new 2 rfl]; rfl
  have hk : Kept NoB w (w.alloc (.cells #[.int .i64 l, .int .i64 d, .int .u8 c] 26)) := (Kept.refl _ _).alloc _
  have HK := Lib.hid hk
  clear hk
  unfold Tk.v
  simp only []
  have hcase : (l = 0 ∧ d = 0) ∨ (l = 0 ∧ d ≠ 0) ∨ (l ≠ 0 ∧ ¬ 3 ≤ l) ∨ (l ≠ 0 ∧ 3 ≤ l ∧ ¬ l ≤ 258) ∨ (l ≠ 0 ∧ 3 ≤ l ∧ l ≤ 258 ∧ ¬ 1 ≤ d) ∨ (l ≠ 0 ∧ 3 ≤ l ∧ l ≤ 258 ∧ 1 ≤ d ∧ ¬ d ≤ 32768) ∨ (l ≠ 0 ∧ 3 ≤ l ∧ l ≤ 258 ∧ 1 ≤ d ∧ d ≤ 32768 ∧ c ≠ 0) ∨ (l ≠ 0 ∧ 3 ≤ l ∧ l ≤ 258 ∧ 1 ≤ d ∧ d ≤ 32768 ∧ c = 0) := by omega
  go_enter Tryd.func31, Tryd.ntmps31
  rcases hcase with ⟨h1, h2⟩ | ⟨h1, h2⟩ | ⟨h1, h2⟩ | ⟨h1, h2, h3⟩ | ⟨h1, h2, h3, h4⟩ | ⟨h1, h2, h3, h4, h5⟩ | ⟨h1, h2, h3, h4, h5, h6⟩ | ⟨h1, h2, h3, h4, h5, h6⟩
  · subst h1 h2
    go_wp2
    go_ret
    exact ⟨rfl, HK.out⟩
  · subst h1
    have g : (d == 0) = false := by simp; exact h2
    go_wp2
    go_ret
    exact ⟨by simp [Tk.ok, h2], HK.out⟩
  all_goals have g1 : (l == 0) = false := by simp; exact h1
  · go_wp2
    go_ret
    exact ⟨by rw [tok_no l d c h1 (by omega)]; rfl, HK.out⟩
  · go_wp2
    go_ret
    exact ⟨by rw [tok_no l d c h1 (by omega)]; rfl, HK.out⟩
  · go_wp2
    go_ret
    exact ⟨by rw [tok_no l d c h1 (by omega)]; rfl, HK.out⟩
  · go_wp2
    go_ret
    exact ⟨by rw [tok_no l d c h1 (by omega)]; rfl, HK.out⟩
  · have g : (c == 0) = false := by simp; exact h6
    go_wp2
    go_ret
    exact ⟨by rw [tok_no l d c h1 (by omega)]; rfl, HK.out⟩
  · subst h6
    go_wp2
    go_ret
    exact ⟨by simp [Tk.ok, h1, h2, h3, h4, h5], HK.out⟩

set_option maxHeartbeats 2000000 in
theorem refused_any (t : Tk) (ao : Option Addr) (n cap : Nat) (most : Int) (w : World) (hn : n ≤ 1000000000000) (ht : t.wf) (hm : -9223372036854775808 ≤ most ∧ most ≤ 9223372036854775807) :
    Calls Tryd.prog 23 #[.slice ao n cap, t.v, .int .i64 most] w fun e w' => e = .returned (.int .i64 (t.no n most)) ∧ Kept NoB w w' := by
  have HOk := Lib.hid (fun w => ok_any t w)
  obtain ⟨l, d, c⟩ := t
  obtain ⟨⟨hl1, hl2⟩, ⟨hd1, hd2⟩, hc⟩ := ht
  simp only at hl1 hl2 hd1 hd2
  have hk : Kept NoB w (w.alloc (.cells #[.int .i64 l, .int .i64 d, .int .u8 c] 26)) := (Kept.refl _ _).alloc _
  have HK := Lib.hid hk
  have hload : ∀ W, Kept NoB (w.alloc (.cells #[.int .i64 l, .int .i64 d, .int .u8 c] 26)) W → W.cell? ⟨w.heap.size, 0, none⟩ = some (.int .i64 l) ∧ W.cell? ⟨w.heap.size, 1, none⟩ = some (.int .i64 d) ∧ W.cell? ⟨w.heap.size, 2, none⟩ = some (.int .u8 c) := fun W hk =>
    ⟨hk.cell (by rw [cell_new 0 rfl]; rfl), hk.cell (by rw [cell_new 1 rfl]; rfl), hk.cell (by rw [cell_new 2 rfl]; rfl)⟩
  obtain ⟨a0, a1, a2⟩ := hload _ (Kept.refl _ _)
  have HLoad := Lib.hid hload
  clear hk hload hc
  unfold Tk.v at HOk ⊢
  simp only [] at HOk ⊢
  go_enter Tryd.func23, Tryd.ntmps23
  go_wp2_with fail
  refine (HOk.out _).mono ?_
  rintro e w1 ⟨rfl, hk1⟩
  obtain ⟨b0, b1, b2⟩ := HLoad.out _ hk1
  have HK1 := Lib.hid (HK.out.trans hk1)
  clear hk1 a0 a1 a2 HLoad HK HOk
  cases hok : (Tk.mk l d c).ok with
  | false =>
    have e : (Tk.mk l d c).no n most = 1 := by unfold Tk.no; rw [if_pos hok]
    clear hok
    go_wp2
    go_ret
    exact ⟨by rw [e]; rfl, HK1.out⟩
  | true =>
    have hlb : l ≤ 258 := by
      by_cases h : l = 0
      · omega
      · have := hok; unfold Tk.ok at this; rw [if_neg h] at this; exact (of_decide_eq_true this).2.1
    have hne : ¬ (Tk.mk l d c).ok = false := by rw [hok]; decide
    by_cases hd : (n : Int) < d
    · have e : (Tk.mk l d c).no n most = 4 := by unfold Tk.no; rw [if_neg hne, if_pos hd]
      clear hok hne
      go_wp2
      go_ret
      exact ⟨by rw [e]; rfl, HK1.out⟩
    · by_cases hq : most < (n : Int) + (if l < 1 then 1 else l)
      · have e : (Tk.mk l d c).no n most = 5 := by unfold Tk.no; rw [if_neg hne, if_neg hd, if_pos hq]
        have E := Lib.hid e
        have hcase : (l < 1 ∧ most < (n : Int) + 1) ∨ (¬ l < 1 ∧ most < (n : Int) + l) := by split at hq <;> omega
        clear hok hne e hq
        rcases hcase with ⟨g1, g2⟩ | ⟨g1, g2⟩
        all_goals
          go_wp2
          go_ret
          exact ⟨by rw [E.out]; rfl, HK1.out⟩
      · have e : (Tk.mk l d c).no n most = 0 := by unfold Tk.no; rw [if_neg hne, if_neg hd, if_neg hq]
        have E := Lib.hid e
        have hcase : (l < 1 ∧ ¬ most < (n : Int) + 1) ∨ (¬ l < 1 ∧ ¬ most < (n : Int) + l) := by split at hq <;> omega
        clear hok hne e hq
        rcases hcase with ⟨g1, g2⟩ | ⟨g1, g2⟩
        all_goals
          go_wp2
          go_ret
          exact ⟨by rw [E.out]; rfl, HK1.out⟩
end Go.Proofs.YtifoldonmmobpaaDoor
