/-
  Package-merge on paper: how many leaves of each row are chosen; the lengths that come of it are a whole code's.
-/
import Derived.Test.YtokdlmpnokmniaaPmA
import Derived.Test.YtokdlmpnokmniaaLensB
namespace Go.Proofs.Ytokdlmpnokmniaa
open Go.RowKit
set_option linter.unusedVariables false
set_option linter.unusedSimpArgs false

/-- How many leaves of row r are chosen, if k of row i are. -/
def cnt (ls : List Int) : Nat → Nat → Nat → Nat
  | 0, k, r => if r = 0 then k - packedN ((rowS ls 0).take k) else 0
  | i + 1, k, r => if r = i + 1 then k - packedN ((rowS ls (i + 1)).take k) else cnt ls i (2 * packedN ((rowS ls (i + 1)).take k)) r
def bumps (ps : List Nat) (x : Nat → Nat) : Nat → List Int → List Int
  | 0, zs => zs
  | i + 1, zs => bumps ps x i (bump zs (ps.take (x i)))
theorem bumps_congr (ps : List Nat) : ∀ (i : Nat) (x y : Nat → Nat) (zs : List Int), (∀ r, r < i → x r = y r) → bumps ps x i zs = bumps ps y i zs
  | 0, x, y, zs, _ => rfl
  | i + 1, x, y, zs, h => by
    unfold bumps
    rw [h i (Nat.lt_succ_self i)]
    exact bumps_congr ps i x y _ (fun r hr => h r (by omega))
theorem wN_congr : ∀ (i : Nat) (x y : Nat → Nat), (∀ r, r < i → x r = y r) → wN x i = wN y i
  | 0, x, y, _ => rfl
  | i + 1, x, y, h => by unfold wN; rw [wN_congr i x y (fun r hr => h r (by omega)), h i (Nat.lt_succ_self i)]
theorem cN_congr (ls : List Int) : ∀ (i : Nat) (x y : Nat → Nat), (∀ r, r < i → x r = y r) → cN ls x i = cN ls y i
  | 0, x, y, _ => rfl
  | i + 1, x, y, h => by unfold cN; rw [cN_congr ls i x y (fun r hr => h r (by omega)), h i (Nat.lt_succ_self i)]
theorem cnt_top (ls : List Int) : ∀ (i k : Nat), cnt ls i k i = k - packedN ((rowS ls i).take k)
  | 0, k => by simp [cnt]
  | i + 1, k => by simp [cnt]
theorem cnt_low (ls : List Int) (i k r : Nat) (h : r ≤ i) : cnt ls (i + 1) k r = cnt ls i (2 * packedN ((rowS ls (i + 1)).take k)) r := by
  show (if r = i + 1 then _ else _) = _
  rw [if_neg (by omega)]
theorem addL_bumps (ls : List Int) (ps : List Nat) : ∀ (i k : Nat) (zs : List Int), addL ls ps (i + 1) k zs = bumps ps (cnt ls i k) (i + 1) zs
  | 0, k, zs => by simp [addL, bumps, cnt]
  | i + 1, k, zs => by
    unfold addL
    rw [addL_bumps ls ps i]
    show bumps ps _ (i + 1) _ = bumps ps (cnt ls (i + 1) k) (i + 1) (bump zs (ps.take (cnt ls (i + 1) k (i + 1))))
    rw [cnt_top]
    exact bumps_congr ps (i + 1) _ _ _ (fun r hr => (cnt_low ls i k r (by omega)).symm)
/-- What is chosen, counted. -/
theorem cnt_facts (ls : List Int) : ∀ (i k : Nat), k ≤ (rowS ls i).length →
    (∀ r, r ≤ i → cnt ls i k r ≤ ls.length) ∧ wN (cnt ls i k) (i + 1) = k * 2 ^ i ∧ sumW ((rowS ls i).take k) = cN ls (cnt ls i k) (i + 1)
  | 0, k, hk => by
    obtain ⟨h1, h2, h3, _⟩ := chosen_ok ls 0 k hk
    have h4 := h3 rfl
    have h5 : cnt ls 0 k 0 = k := by rw [cnt_top, h4]; omega
    have hl : leafN ((rowS ls 0).take k) = k := by
      have := packed_leaf ((rowS ls 0).take k)
      rw [List.length_take, h4] at this; omega
    refine ⟨fun r hr => ?_, ?_, ?_⟩
    · have : r = 0 := by omega
      subst this
      rw [h5]; omega
    · simp [wN, h5]
    · rw [row_zero] at hl ⊢
      rw [mrg_sum, hl, tk_nil]
      simp [cN, h5]
  | i + 1, k, hk => by
    obtain ⟨h1, h2, _, h4⟩ := chosen_ok ls (i + 1) k hk
    have h5 := h4 i rfl
    obtain ⟨p, hp⟩ : ∃ p, p = packedN ((rowS ls (i + 1)).take k) := ⟨_, rfl⟩
    rw [← hp] at h1 h2 h5
    obtain ⟨g1, g2, g3⟩ := cnt_facts ls i (2 * p) h5
    have ht : cnt ls (i + 1) k (i + 1) = k - p := by rw [cnt_top, ← hp]
    have hlow : ∀ r, r < i + 1 → cnt ls (i + 1) k r = cnt ls i (2 * p) r := fun r hr => by rw [cnt_low ls i k r (by omega), ← hp]
    refine ⟨fun r hr => ?_, ?_, ?_⟩
    · by_cases e : r = i + 1
      · subst e; rw [ht]; exact h1
      · rw [hlow r (by omega)]; exact g1 r (by omega)
    · show wN (cnt ls (i + 1) k) (i + 1) + cnt ls (i + 1) k (i + 1) * 2 ^ (i + 1) = _
      rw [wN_congr (i + 1) _ _ hlow, g2, ht]
      obtain ⟨c, hc⟩ : ∃ c, k = p + c := ⟨k - p, by omega⟩
      rw [hc, Nat.add_sub_cancel_left, Nat.add_mul, Nat.pow_succ, Nat.mul_comm 2 p, Nat.mul_assoc, Nat.mul_comm 2]
    · have hl : leafN ((rowS ls (i + 1)).take k) = k - p := by
        have := packed_leaf ((rowS ls (i + 1)).take k)
        rw [List.length_take, ← hp] at this; omega
      show _ = cN ls (cnt ls (i + 1) k) (i + 1) + tk ls (cnt ls (i + 1) k (i + 1))
      rw [cN_congr ls (i + 1) _ _ hlow, ← g3, ht, pairs_sum _ _ h5]
      rw [row_succ] at hl hp ⊢
      rw [mrg_sum, hl, ← hp]; omega
/-- A leaf that is not taken is heavier than each pair that is. -/
theorem mrg_wait : ∀ (P ls : List Int), Srd ls → ∀ (k t : Nat), leafN ((mrg P ls).take k) < ls.length → t < packedN ((mrg P ls).take k) → P.getD t 0 < ls.getD (leafN ((mrg P ls).take k)) 0 := by
  intro P
  induction P with
  | nil =>
    intro ls _ k t hc ht
    have : packedN ((mrg [] ls).take k) = 0 := by
      have h1 := packed_take (mrg [] ls) k
      have h2 : packedN (mrg [] ls) = 0 := by have := packed_mergeS [] ls; rw [mergeS_mrg] at this; simpa [pairsL] using this
      omega
    omega
  | cons w P ihP =>
    intro ls
    induction ls with
    | nil => intro _ k t hc ht; simp at hc
    | cons z r ih =>
      intro hs k t hc ht
      cases k with
      | zero => simp [packedN] at ht
      | succ k =>
        by_cases h : z ≤ w
        · rw [mrg_le _ _ _ _ h, List.take_succ_cons, leafN_cons] at hc ⊢
          rw [mrg_le _ _ _ _ h, List.take_succ_cons, packedN_cons] at ht
          simp only [Bool.false_eq_true, if_false, List.length_cons] at hc ht ⊢
          rw [List.getD_cons_succ]
          exact ih (List.pairwise_cons.1 hs).2 k t (by omega) ht
        · rw [mrg_gt _ _ _ _ h, List.take_succ_cons, leafN_cons] at hc ⊢
          rw [mrg_gt _ _ _ _ h, List.take_succ_cons, packedN_cons] at ht
          simp only [if_true, Nat.add_zero] at hc ht ⊢
          cases t with
          | zero =>
            rw [List.getD_cons_zero]
            have hm : ∀ j, j < (z :: r).length → z ≤ (z :: r).getD j 0 := by
              intro j hj
              cases j with
              | zero => simp
              | succ j =>
                have hj2 : j < r.length := by simpa using hj
                rw [List.getD_cons_succ]
                have e : r.getD j 0 = r[j] := by simp [List.getD, hj2]
                rw [e]
                exact (List.pairwise_cons.1 hs).1 _ (List.getElem_mem hj2)
            have := hm _ hc
            omega
          | succ t =>
            rw [List.getD_cons_succ]
            exact ihP (z :: r) hs k t hc (by omega)
/-- Each leaf that is taken stands in the row. -/
theorem mrg_leaf : ∀ (P ls : List Int) (k j : Nat), j < leafN ((mrg P ls).take k) → ∃ s, s < k ∧ s < (mrg P ls).length ∧ ((mrg P ls).getD s (0, false)).1 = ls.getD j 0 := by
  intro P
  induction P with
  | nil =>
    intro ls
    induction ls with
    | nil => intro k j h; simp [mrg, leafN] at h
    | cons z r ih =>
      intro k j h
      cases k with
      | zero => simp [leafN] at h
      | succ k =>
        rw [mrg_nil_cons, List.take_succ_cons, leafN_cons] at h
        cases j with
        | zero => exact ⟨0, by omega, by rw [mrg_nil_cons]; simp, by rw [mrg_nil_cons]; rfl⟩
        | succ j =>
          simp only [Bool.false_eq_true, if_false] at h
          obtain ⟨s, h1, h2, h3⟩ := ih k j (by omega)
          exact ⟨s + 1, by omega, by rw [mrg_nil_cons]; simpa using h2, by rw [mrg_nil_cons, List.getD_cons_succ, List.getD_cons_succ]; exact h3⟩
  | cons w P ihP =>
    intro ls
    induction ls with
    | nil =>
      intro k j h
      cases k with
      | zero => simp [leafN] at h
      | succ k =>
        rw [mrg_cons_nil, List.take_succ_cons, leafN_cons] at h
        simp only [if_true, Nat.add_zero] at h
        obtain ⟨s, h1, h2, h3⟩ := ihP [] k j h
        exact ⟨s + 1, by omega, by rw [mrg_cons_nil]; simpa using h2, by rw [mrg_cons_nil, List.getD_cons_succ]; exact h3⟩
    | cons z r ih =>
      intro k j h
      cases k with
      | zero => simp [leafN] at h
      | succ k =>
        by_cases hz : z ≤ w
        · rw [mrg_le _ _ _ _ hz, List.take_succ_cons, leafN_cons] at h
          cases j with
          | zero => exact ⟨0, by omega, by rw [mrg_le _ _ _ _ hz]; simp, by rw [mrg_le _ _ _ _ hz]; rfl⟩
          | succ j =>
            simp only [Bool.false_eq_true, if_false] at h
            obtain ⟨s, h1, h2, h3⟩ := ih k j (by omega)
            exact ⟨s + 1, by omega, by rw [mrg_le _ _ _ _ hz]; simpa using h2, by rw [mrg_le _ _ _ _ hz, List.getD_cons_succ, List.getD_cons_succ]; exact h3⟩
        · rw [mrg_gt _ _ _ _ hz, List.take_succ_cons, leafN_cons] at h
          simp only [if_true, Nat.add_zero] at h
          obtain ⟨s, h1, h2, h3⟩ := ihP (z :: r) k j h
          exact ⟨s + 1, by omega, by rw [mrg_gt _ _ _ _ hz]; simpa using h2, by rw [mrg_gt _ _ _ _ hz, List.getD_cons_succ]; exact h3⟩
theorem pairs_get : ∀ (r : List It) (t s : Nat), 2 * t + 1 < r.length → s = 2 * t ∨ s = 2 * t + 1 → (∀ u ∈ r, 0 ≤ u.1) → (r.getD s (0, false)).1 ≤ (pairsL r).getD t 0
  | [], t, s, h, _, _ => by simp at h
  | [a], t, s, h, _, _ => by simp at h
  | a :: b :: r, 0, s, h, hs, h0 => by
    have h1 := h0 a List.mem_cons_self
    have h2 := h0 b (List.mem_cons_of_mem _ List.mem_cons_self)
    rcases hs with rfl | rfl <;> simp [pairsL] <;> omega
  | a :: b :: r, t + 1, s, h, hs, h0 => by
    have := pairs_get r t (s - 2) (by simp only [List.length_cons] at h; omega) (by omega) (fun u hu => h0 u (List.mem_cons_of_mem _ (List.mem_cons_of_mem _ hu)))
    obtain ⟨s', rfl⟩ : ∃ s', s = s' + 1 + 1 := ⟨s - 2, by omega⟩
    rw [List.getD_cons_succ, List.getD_cons_succ]
    simpa [pairsL] using this
theorem row_nonneg (ls : List Int) (h0 : ∀ z ∈ ls, 0 ≤ z ∧ z ≤ 1048576) (i : Nat) : ∀ u ∈ rowS ls i, 0 ≤ u.1 := fun u hu => (small_row ls h0 i u hu).1
/-- No more leaves of a row are chosen than of the next one. -/
theorem cnt_step (ls : List Int) (hs : Srd ls) (h0 : ∀ z ∈ ls, 0 ≤ z ∧ z ≤ 1048576) (i k : Nat) (hk : k ≤ (rowS ls (i + 1)).length) (p : Nat) (hp : p = packedN ((rowS ls (i + 1)).take k)) :
    2 * p - packedN ((rowS ls i).take (2 * p)) ≤ k - p := by
  obtain ⟨h1, h2, _, h4⟩ := chosen_ok ls (i + 1) k hk
  have h5 := h4 i rfl
  rw [← hp] at h1 h2 h5
  have hl : leafN ((rowS ls (i + 1)).take k) = k - p := by
    have := packed_leaf ((rowS ls (i + 1)).take k)
    rw [List.length_take, ← hp] at this; omega
  have hl2 : leafN ((rowS ls i).take (2 * p)) = 2 * p - packedN ((rowS ls i).take (2 * p)) := by
    have := packed_leaf ((rowS ls i).take (2 * p))
    rw [List.length_take] at this; omega
  rw [← hl2]
  refine Nat.le_of_not_lt (fun hlt => ?_)
  have hm := leaf_take (rowS ls i) (2 * p)
  rw [leafs_row] at hm
  obtain ⟨P, hP⟩ : ∃ P, rowS ls i = mrg P ls := by
    cases i with
    | zero => exact ⟨_, row_zero ls⟩
    | succ i => exact ⟨_, row_succ ls i⟩
  have hlf : ∃ s, s < 2 * p ∧ s < (rowS ls i).length ∧ ((rowS ls i).getD s (0, false)).1 = ls.getD (k - p) 0 := by
    rw [hP] at hlt ⊢
    exact mrg_leaf P ls (2 * p) (k - p) hlt
  obtain ⟨s, s1, s2, s3⟩ := hlf
  have hw := mrg_wait (pairsL (rowS ls i)) ls hs k (s / 2) (by rw [← row_succ, hl]; omega) (by rw [← row_succ, ← hp]; omega)
  rw [← row_succ, hl] at hw
  have hg := pairs_get (rowS ls i) (s / 2) s (by omega) (by omega) (row_nonneg ls h0 i)
  omega
theorem cnt_mono (ls : List Int) (hs : Srd ls) (h0 : ∀ z ∈ ls, 0 ≤ z ∧ z ≤ 1048576) : ∀ (i k : Nat), k ≤ (rowS ls i).length → ∀ r, r < i → cnt ls i k r ≤ cnt ls i k (r + 1)
  | 0, k, _, r, hr => by omega
  | i + 1, k, hk, r, hr => by
    obtain ⟨h1, h2, _, h4⟩ := chosen_ok ls (i + 1) k hk
    have h5 := h4 i rfl
    rw [cnt_low ls i k r (by omega)]
    by_cases e : r = i
    · subst e
      rw [cnt_top, cnt_top]
      exact cnt_step ls hs h0 r k hk _ rfl
    · rw [cnt_low ls i k (r + 1) (by omega)]
      exact cnt_mono ls hs h0 i _ h5 r (by omega)
end Go.Proofs.Ytokdlmpnokmniaa
