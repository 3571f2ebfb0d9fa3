/-
  The document's own: TokenOk, Put.
-/
import Derived.Test.YtkhkcmekjjihkaaTokC
import Derived.Test.YtkhkcmekjjihkaaMark
import Derived.Laws.Concat
namespace Go.Proofs.Ytkhkcmekjjihkaa
open Go.RowKit
set_option linter.unusedVariables false
set_option linter.unusedSimpArgs false

set_option maxHeartbeats 2000000 in
theorem refOk_any (t : Tk) (w : World) : Calls Try.prog 17 #[t.v] w fun e w' => e = .returned (.bool t.ok) ∧ Kept NoB w w' := by
  obtain ⟨l, d, c⟩ := t
  have hc0 : (w.alloc (.cells #[.int .i64 l, .int .i64 d, .int .u8 c] 31)).cell? ⟨w.heap.size, 0, none⟩ = some (.int .i64 l) := by rw [cell_new 0 rfl]; rfl
  have hc1 : (w.alloc (.cells #[.int .i64 l, .int .i64 d, .int .u8 c] 31)).cell? ⟨w.heap.size, 1, none⟩ = some (.int .i64 d) := by rw [cell_new 1 rfl]; rfl
  have hc2 : (w.alloc (.cells #[.int .i64 l, .int .i64 d, .int .u8 c] 31)).cell? ⟨w.heap.size, 2, none⟩ = some (.int .u8 c) := by rw [cell_new 2 rfl]; rfl
  have hk : Kept NoB w (w.alloc (.cells #[.int .i64 l, .int .i64 d, .int .u8 c] 31)) := (Kept.refl _ _).alloc _
  have HK := Lib.hid hk
  clear hk
  unfold Tk.v
  simp only []
  have hcase : (l = 0 ∧ d = 0) ∨ (l = 0 ∧ d ≠ 0) ∨ (l ≠ 0 ∧ ¬ 3 ≤ l) ∨ (l ≠ 0 ∧ 3 ≤ l ∧ ¬ l ≤ 258) ∨ (l ≠ 0 ∧ 3 ≤ l ∧ l ≤ 258 ∧ ¬ 1 ≤ d) ∨ (l ≠ 0 ∧ 3 ≤ l ∧ l ≤ 258 ∧ 1 ≤ d ∧ ¬ d ≤ 32768) ∨ (l ≠ 0 ∧ 3 ≤ l ∧ l ≤ 258 ∧ 1 ≤ d ∧ d ≤ 32768 ∧ c ≠ 0) ∨ (l ≠ 0 ∧ 3 ≤ l ∧ l ≤ 258 ∧ 1 ≤ d ∧ d ≤ 32768 ∧ c = 0) := by omega
  go_enter Try.func17, Try.ntmps17
  rcases hcase with ⟨h1, h2⟩ | ⟨h1, h2⟩ | ⟨h1, h2⟩ | ⟨h1, h2, h3⟩ | ⟨h1, h2, h3, h4⟩ | ⟨h1, h2, h3, h4, h5⟩ | ⟨h1, h2, h3, h4, h5, h6⟩ | ⟨h1, h2, h3, h4, h5, h6⟩
  · subst h1 h2
    go_wp2
    go_ret
    exact ⟨rfl, HK.out⟩
  · subst h1
    have g : (d == 0) = false := by simp; exact h2
    go_wp2
    go_ret
    exact ⟨by simp [Tk.ok, h2], HK.out⟩
  all_goals have g1 : (l == 0) = false := by simp; exact h1
  · go_wp2
    go_ret
    exact ⟨by rw [tok_no l d c h1 (by omega)]; rfl, HK.out⟩
  · go_wp2
    go_ret
    exact ⟨by rw [tok_no l d c h1 (by omega)]; rfl, HK.out⟩
  · go_wp2
    go_ret
    exact ⟨by rw [tok_no l d c h1 (by omega)]; rfl, HK.out⟩
  · go_wp2
    go_ret
    exact ⟨by rw [tok_no l d c h1 (by omega)]; rfl, HK.out⟩
  · have g : (c == 0) = false := by simp; exact h6
    go_wp2
    go_ret
    exact ⟨by rw [tok_no l d c h1 (by omega)]; rfl, HK.out⟩
  · subst h6
    go_wp2
    go_ret
    exact ⟨by simp [Tk.ok, h1, h2, h3, h4, h5], HK.out⟩


theorem ownM_ne {w : World} {v : Value} {bs : List Int} (h : OwnM w v bs) {X : Nat} {cs : Array Value} {t : TypeId} {fr : Nat × Nat} (hx : w.heap[X]? = some (.cells cs t fr)) (ht : t ≠ 5) : v.ownBlock ≠ some X := by
  intro e
  rcases h with ⟨rfl, _⟩ | ⟨g, cap, cur, fz, rfl, hg, _⟩
  · simp [Value.ownBlock] at e
  · simp [Value.ownBlock] at e
    subst e
    rw [hg] at hx
    simp at hx
    exact ht hx.2.1.symm

set_option maxHeartbeats 4000000 in
theorem refPut_no (t : Tk) (s : ByteArray) (n : Nat) (most : Int) (w : World) (hs : s.size = n) (hn : n ≤ 1000000) (ht : t.wf) (hm : -9223372036854775808 ≤ most ∧ most ≤ 9223372036854775807) (hno : t.no n most ≠ 0) :
    Calls Try.prog 15 #[.string s, t.v, .int .i64 most] w fun e w' => e = .returned (.tuple #[.string ⟨#[]⟩, .int .i64 (t.no n most)]) ∧ Kept NoB w w' := by
  have HOk := Lib.hid (fun w => refOk_any t w)
  obtain ⟨l, d, c⟩ := t
  obtain ⟨⟨hl1, hl2⟩, ⟨hd1, hd2⟩, hc⟩ := ht
  simp only at hl1 hl2 hd1 hd2
  have hk : Kept NoB w (w.alloc (.cells #[.int .i64 l, .int .i64 d, .int .u8 c] 31)) := (Kept.refl _ _).alloc _
  have HK := Lib.hid hk
  have hload : ∀ W : World, Kept NoB (w.alloc (.cells #[.int .i64 l, .int .i64 d, .int .u8 c] 31)) W → W.cell? ⟨w.heap.size, 0, none⟩ = some (.int .i64 l) ∧ W.cell? ⟨w.heap.size, 1, none⟩ = some (.int .i64 d) ∧ W.cell? ⟨w.heap.size, 2, none⟩ = some (.int .u8 c) := fun W hk =>
    ⟨hk.cell (by rw [cell_new 0 rfl]; rfl), hk.cell (by rw [cell_new 1 rfl]; rfl), hk.cell (by rw [cell_new 2 rfl]; rfl)⟩
  obtain ⟨a0, a1, a2⟩ := hload _ (Kept.refl _ _)
  have HLoad := Lib.hid hload
  have HNo := Lib.hid hno
  clear hk hload hc hno
  unfold Tk.v at HOk ⊢
  simp only [] at HOk ⊢
  go_enter Try.func15, Try.ntmps15
  go_wp2_with fail
  refine (HOk.out _).mono ?_
  rintro e w1 ⟨rfl, hk1⟩
  obtain ⟨b0, b1, b2⟩ := HLoad.out _ hk1
  have HK1 := Lib.hid (HK.out.trans hk1)
  clear hk1 a0 a1 a2 HLoad HK HOk
  cases hok : (Tk.mk l d c).ok with
  | false =>
    have e : (Tk.mk l d c).no n most = 1 := by unfold Tk.no; rw [if_pos hok]
    clear hok
    go_wp2
    go_ret2
    exact ⟨by rw [e]; rfl, HK1.out⟩
  | true =>
    have hlb : l ≤ 258 := by
      by_cases h : l = 0
      · omega
      · have := hok; unfold Tk.ok at this; rw [if_neg h] at this; exact (of_decide_eq_true this).2.1
    have hne : ¬ (Tk.mk l d c).ok = false := by rw [hok]; decide
    by_cases hd : (n : Int) < d
    · have e : (Tk.mk l d c).no n most = 4 := by unfold Tk.no; rw [if_neg hne, if_pos hd]
      clear hok hne
      go_wp2
      go_ret2
      exact ⟨by rw [e]; rfl, HK1.out⟩
    · by_cases hq : most < (n : Int) + (if l < 1 then 1 else l)
      · have e : (Tk.mk l d c).no n most = 5 := by unfold Tk.no; rw [if_neg hne, if_neg hd, if_pos hq]
        have E := Lib.hid e
        have hcase : most < (n : Int) ∨ (¬ most < (n : Int) ∧ l < 1 ∧ most - (n : Int) < 1) ∨ (¬ most < (n : Int) ∧ ¬ l < 1 ∧ most - (n : Int) < l) := by split at hq <;> omega
        clear hok hne e hq
        rcases hcase with g1 | ⟨g1, g2, g3⟩ | ⟨g1, g2, g3⟩
        all_goals
          go_wp2
          go_ret2
          exact ⟨by rw [E.out]; rfl, HK1.out⟩
      · exact absurd (show (Tk.mk l d c).no n most = 0 by unfold Tk.no; rw [if_neg hne, if_neg hd, if_neg hq]) HNo.out
end Go.Proofs.Ytkhkcmekjjihkaa
