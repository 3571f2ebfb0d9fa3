/-
  Tokens are expanded to what was told by them, on paper.
-/
import Derived.Test.YtifoldonmmobpaaDoorMatS
import Derived.Test.YtifoldonmmobpaaDoorOwnB
import Derived.Test.YtifoldonmmobpaaDoorTokD
namespace Go.Proofs.YtifoldonmmobpaaDoor
open Go.RowKit
set_option linter.unusedVariables false
set_option linter.unusedSimpArgs false

theorem nb_getD (L : List UInt8) (i : Nat) : (nb L).getD i 0 = ((L.getD i 0).toNat : Int) := by
  by_cases h : i < L.length
  · simp [nb, List.getD, h]
  · simp [nb, List.getD, List.getElem?_eq_none (Nat.le_of_not_lt h)]
theorem nb_take_succ (L : List UInt8) (i : Nat) (h : i < L.length) : (nb L).take (i + 1) = (nb L).take i ++ [((L.getD i 0).toNat : Int)] := by
  have hn : i < (nb L).length := by rw [nb_len]; exact h
  have e : (nb L)[i] = ((L.getD i 0).toNat : Int) := by
    have := nb_getD L i
    simpa [List.getD, hn] using this
  rw [List.take_succ_eq_append_getElem hn, e]
/-- Bytes that are those so far ahead are told by a copy. -/
theorem copy_cand (L : List UInt8) (p D m : Nat) (hD : 1 ≤ D) (hp : D ≤ p) (h : ∀ j, j < m → L.getD (p - D + j) 0 = L.getD (p + j) 0) (hm : p + m ≤ L.length) : copyN D m ((nb L).take p) = (nb L).take (p + m) := by
  induction m with
  | zero => rfl
  | succ m ih =>
    have ih := ih (fun j hj => h j (by omega)) (by omega)
    have hl : ((nb L).take (p + m)).length = p + m := by rw [List.length_take, nb_len]; omega
    rw [copyN, ih, hl, show p + (m + 1) = p + m + 1 by omega, nb_take_succ L (p + m) (by omega)]
    congr 1
    have e1 : ((nb L).take (p + m)).getD (p + m - D) 0 = (nb L).getD (p + m - D) 0 := by
      simp [List.getD, List.getElem?_take, show p + m - D < p + m by omega]
    rw [e1, nb_getD, show p + m - D = p - D + m by omega, h m (by omega)]
theorem step_exp (lv : Int) (L : List UInt8) (p : Nat) (hp : p < L.length) (hL : L.length ≤ 32768) :
    (stepT lv L p).1.wf ∧ (stepT lv L p).1.no ((nb L).take p).length (L.length : Int) = 0 ∧ (stepT lv L p).1.put ((nb L).take p) = (nb L).take (stepT lv L p).2 := by
  have hl : ((nb L).take p).length = p := by rw [List.length_take, nb_len]; omega
  rw [hl]
  by_cases hz : (lazyN lv L p).1 = 0
  · rw [step_lit hz]
    have hb := (L.getD p 0).toNat_lt
    refine ⟨?_, ?_, ?_⟩
    · unfold Tk.wf litT
      simp only
      omega
    · unfold Tk.no Tk.ok litT
      simp only
      rw [if_pos trivial, if_neg (by simp), if_neg (by omega), if_neg (by rw [if_pos (by decide)]; omega)]
    · unfold Tk.put litT
      simp only
      rw [if_pos trivial, nb_take_succ L p hp]
  · rw [step_tok hz]
    have hlz : lazyN lv L p = longN L p := by
      unfold lazyN at hz ⊢
      split at hz
      · exact absurd rfl hz
      · split at hz
        · exact absurd rfl hz
        · rename_i h1 h2
          rw [if_neg h1, if_neg h2]
    rw [hlz] at hz ⊢
    obtain ⟨n, hn⟩ : ∃ n, n = (longN L p).1 := ⟨_, rfl⟩
    obtain ⟨d, hd⟩ : ∃ d, d = (longN L p).2 := ⟨_, rfl⟩
    have hok := long_ok L p
    rw [← hn, ← hd] at hok
    rw [← hn] at hz ⊢
    rw [← hd]
    rcases hok with ⟨h1, _⟩ | ⟨h1, h2, h3, h4, h5, _⟩
    · exact absurd h1 hz
    · have h2' := h2
      rw [mostN] at h2'
      have hc := (shr_iff L (mostN L p) (p - d) p n h2).1 (by rw [← h5]; exact Nat.le_refl _)
      refine ⟨?_, ?_, ?_⟩
      · unfold Tk.wf
        simp only
        omega
      · unfold Tk.no Tk.ok
        simp only
        rw [if_neg (show ¬ ((n : Int) = 0) by omega), if_neg (by simp; omega), if_neg (by omega), if_neg (by omega)]
      · unfold Tk.put
        simp only
        rw [if_neg (by omega), Int.toNat_natCast, Int.toNat_natCast]
        exact copy_cand L p d n h3 (by omega) hc (by omega)
/-- What was told is made again, all of it. -/
theorem exp_rest (lv : Int) (L : List UInt8) (hL : L.length ≤ 32768) : ∀ k p i, L.length - p ≤ k → p ≤ L.length → AllT (restT lv L p) ∧ expF (L.length : Int) (restT lv L p) ((nb L).take p) i = (nb L, i + (restT lv L p).length, 0) := by
  intro k
  induction k with
  | zero =>
    intro p i hk hp
    rw [rest_end lv L p (by omega), show p = L.length by omega]
    refine ⟨(fun t ht => by cases ht), ?_⟩
    rw [expF, List.take_of_length_le (by rw [nb_len]; exact Nat.le_refl _)]
    rfl
  | succ k ih =>
    intro p i hk hp
    by_cases hlt : p < L.length
    · obtain ⟨h1, h2, h3⟩ := step_exp lv L p hlt hL
      have h4 := step_lt lv L p
      obtain ⟨g1, g2⟩ := ih (stepT lv L p).2 (i + 1) (by omega) (step_le lv L p hlt)
      rw [rest_step lv L p hlt]
      refine ⟨?_, ?_⟩
      · intro t ht
        rcases List.mem_cons.1 ht with h | h
        · rw [h]; exact h1
        · exact g1 t h
      · rw [expF, if_pos h2, h3, g2, List.length_cons]
        congr 2
        omega
    · rw [rest_end lv L p (by omega), show p = L.length by omega]
      refine ⟨(fun t ht => by cases ht), ?_⟩
      rw [expF, List.take_of_length_le (by rw [nb_len]; exact Nat.le_refl _)]
      rfl
end Go.Proofs.YtifoldonmmobpaaDoor
