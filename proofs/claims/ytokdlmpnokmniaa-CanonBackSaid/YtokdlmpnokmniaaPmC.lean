/-
  Package-merge on paper: the lengths.
-/
import Derived.Test.YtokdlmpnokmniaaPmB
namespace Go.Proofs.Ytokdlmpnokmniaa
open Go.RowKit
set_option linter.unusedVariables false
set_option linter.unusedSimpArgs false

/-- In how many of the first i rows leaf j is chosen. -/
def lenJ (x : Nat → Nat) (j : Nat) : Nat → Nat
  | 0 => 0
  | i + 1 => lenJ x j i + (if j < x i then 1 else 0)
def valJ (x : Nat → Nat) (j : Nat) : Nat → Nat
  | 0 => 0
  | i + 1 => valJ x j i + (if j < x i then 2 ^ i else 0)
theorem lenJ_le (x : Nat → Nat) (j : Nat) : ∀ i, lenJ x j i ≤ i
  | 0 => Nat.le_refl _
  | i + 1 => by have := lenJ_le x j i; unfold lenJ; split <;> omega
theorem lenJ_anti (x : Nat → Nat) {j k : Nat} (h : j ≤ k) : ∀ i, lenJ x k i ≤ lenJ x j i
  | 0 => Nat.le_refl _
  | i + 1 => by have := lenJ_anti x h i; unfold lenJ; split <;> split <;> omega
theorem lenJ_zero (x : Nat → Nat) (j : Nat) : ∀ i, (∀ r, r < i → x r ≤ j) → lenJ x j i = 0 ∧ valJ x j i = 0
  | 0, _ => ⟨rfl, rfl⟩
  | i + 1, h => by
    obtain ⟨h1, h2⟩ := lenJ_zero x j i (fun r hr => h r (by omega))
    have h3 := h i (by omega)
    unfold lenJ valJ
    rw [h1, h2, if_neg (by omega), if_neg (by omega)]
    exact ⟨rfl, rfl⟩
theorem below_top (x : Nat → Nat) (i : Nat) (hm : ∀ r, r + 1 < i + 1 → x r ≤ x (r + 1)) : ∀ d r, r + d = i → x r ≤ x i
  | 0, r, h => by rw [show r = i by omega]; exact Nat.le_refl _
  | d + 1, r, h => Nat.le_trans (hm r (by omega)) (below_top x i hm d (r + 1) (by omega))
theorem val_len (x : Nat → Nat) (j : Nat) : ∀ i, (∀ r, r + 1 < i → x r ≤ x (r + 1)) → valJ x j i + 2 ^ (i - lenJ x j i) = 2 ^ i
  | 0, _ => by simp [valJ, lenJ]
  | i + 1, h => by
    by_cases hj : j < x i
    · have ih := val_len x j i (fun r hr => h r (by omega))
      have hle := lenJ_le x j i
      unfold valJ lenJ
      rw [if_pos hj, if_pos hj, show i + 1 - (lenJ x j i + 1) = i - lenJ x j i by omega, Nat.pow_succ]
      omega
    · have hz := lenJ_zero x j i (fun r hr => by have := below_top x i h (i - r) r (by omega); omega)
      unfold valJ lenJ
      rw [if_neg hj, if_neg hj, hz.1, hz.2]
      simp
def sumN (f : Nat → Nat) : Nat → Nat
  | 0 => 0
  | n + 1 => sumN f n + f n
theorem sumN_add (f g : Nat → Nat) : ∀ n, sumN (fun j => f j + g j) n = sumN f n + sumN g n
  | 0 => rfl
  | n + 1 => by simp only [sumN, sumN_add f g n]; omega
theorem sumN_const (c : Nat) : ∀ n, sumN (fun _ => c) n = n * c
  | 0 => by simp [sumN]
  | n + 1 => by simp only [sumN, sumN_const c n, Nat.add_mul]; omega
theorem sumN_below (c v : Nat) : ∀ n, sumN (fun j => if j < c then v else 0) n = min c n * v
  | 0 => by simp [sumN]
  | n + 1 => by
    simp only [sumN, sumN_below c v n]
    by_cases h : n < c
    · rw [if_pos h, Nat.min_eq_right (by omega), Nat.min_eq_right (by omega), Nat.add_mul]; omega
    · rw [if_neg h, Nat.min_eq_left (by omega), Nat.min_eq_left (by omega)]; rfl
theorem sumN_congr {f g : Nat → Nat} : ∀ n, (∀ j, j < n → f j = g j) → sumN f n = sumN g n
  | 0, _ => rfl
  | n + 1, h => by simp only [sumN, sumN_congr n (fun j hj => h j (by omega)), h n (by omega)]
theorem sumN_ge {f : Nat → Nat} : ∀ n j, j < n → f j ≤ sumN f n
  | 0, j, h => by omega
  | n + 1, j, h => by
    unfold sumN
    by_cases e : j = n
    · subst e; omega
    · have := sumN_ge (f := f) n j (by omega); omega
theorem sum_val (x : Nat → Nat) (n : Nat) : ∀ i, (∀ r, r < i → x r ≤ n) → sumN (fun j => valJ x j i) n = wN x i
  | 0, _ => by simp only [valJ, wN]; rw [sumN_const]; omega
  | i + 1, h => by
    have ih := sum_val x n i (fun r hr => h r (by omega))
    simp only [valJ]
    rw [sumN_add, ih, sumN_below, Nat.min_eq_left (h i (by omega))]
    rfl
/-- The lengths are a whole code's. -/
theorem sum_len (x : Nat → Nat) (n i : Nat) (h : ∀ r, r < i → x r ≤ n) (hm : ∀ r, r + 1 < i → x r ≤ x (r + 1)) : wN x i + sumN (fun j => 2 ^ (i - lenJ x j i)) n = n * 2 ^ i := by
  rw [← sum_val x n i h, ← sumN_add, sumN_congr (g := fun _ => 2 ^ i) n (fun j _ => val_len x j i hm), sumN_const]

theorem getD_set_eq (zs : List Int) (p : Nat) (v : Int) (h : p < zs.length) : (zs.set p v).getD p 0 = v := by simp [List.getD, h]
theorem getD_set_ne (zs : List Int) (p q : Nat) (v : Int) (h : p ≠ q) : (zs.set p v).getD q 0 = zs.getD q 0 := by simp [List.getD, List.getElem?_set_ne h]
theorem bump_get : ∀ (ps : List Nat) (zs : List Int) (p : Nat), p < zs.length → (bump zs ps).getD p 0 = zs.getD p 0 + ((ps.count p : Nat) : Int)
  | [], zs, p, _ => by simp [bump]
  | q :: r, zs, p, h => by
    show (bump (zs.set q (zs.getD q 0 + 1)) r).getD p 0 = _
    rw [bump_get r _ p (by simpa using h), List.count_cons]
    by_cases e : q = p
    · subst e
      rw [getD_set_eq _ _ _ h]; simp; omega
    · rw [getD_set_ne _ _ _ _ e]; simp [e]
def cntP (ps : List Nat) (x : Nat → Nat) (p : Nat) : Nat → Nat
  | 0 => 0
  | i + 1 => cntP ps x p i + (ps.take (x i)).count p
theorem bumps_get (ps : List Nat) (x : Nat → Nat) : ∀ (i : Nat) (zs : List Int) (p : Nat), p < zs.length → (bumps ps x i zs).getD p 0 = zs.getD p 0 + ((cntP ps x p i : Nat) : Int)
  | 0, zs, p, _ => by simp [bumps, cntP]
  | i + 1, zs, p, h => by
    unfold bumps
    rw [bumps_get ps x i _ p (by rw [bump_len]; exact h), bump_get _ _ _ h]
    have e : cntP ps x p (i + 1) = cntP ps x p i + (ps.take (x i)).count p := rfl
    rw [e]; omega
theorem count_take : ∀ (ps : List Nat) (c j : Nat), ps.Nodup → j < ps.length → (ps.take c).count (ps.getD j 0) = if j < c then 1 else 0
  | [], c, j, _, h => by simp at h
  | a :: r, 0, j, _, _ => by simp
  | a :: r, c + 1, 0, hn, _ => by
    have h1 := (List.nodup_cons.1 hn).1
    rw [List.take_succ_cons, List.getD_cons_zero, List.count_cons_self, if_pos (by omega), List.count_eq_zero.2 (fun hm => h1 (List.mem_of_mem_take hm))]
  | a :: r, c + 1, j + 1, hn, h => by
    have h1 := (List.nodup_cons.1 hn).1
    have hj : j < r.length := by simpa using h
    have e : r.getD j 0 = r[j] := by simp [List.getD, hj]
    have hne : a ≠ r.getD j 0 := fun e2 => h1 (by rw [e2, e]; exact List.getElem_mem hj)
    rw [List.take_succ_cons, List.getD_cons_succ, List.count_cons_of_ne hne, count_take r c j (List.nodup_cons.1 hn).2 hj]
    by_cases hc : j < c
    · rw [if_pos hc, if_pos (by omega)]
    · rw [if_neg hc, if_neg (by omega)]
theorem cntP_len (ps : List Nat) (x : Nat → Nat) (j : Nat) (hn : ps.Nodup) (hj : j < ps.length) : ∀ i, cntP ps x (ps.getD j 0) i = lenJ x j i
  | 0 => rfl
  | i + 1 => by unfold cntP lenJ; rw [cntP_len ps x j hn hj i, count_take ps _ j hn hj]
theorem cntP_zero (ps : List Nat) (x : Nat → Nat) (p : Nat) (h : p ∉ ps) : ∀ i, cntP ps x p i = 0
  | 0 => rfl
  | i + 1 => by unfold cntP; rw [cntP_zero ps x p h i, List.count_eq_zero.2 (fun hm => h (List.mem_of_mem_take hm))]
theorem cost_set : ∀ (ws zs : List Int) (p : Nat), p < zs.length → p < ws.length → costL ws (zs.set p (zs.getD p 0 + 1)) = costL ws zs + ws.getD p 0
  | [], zs, p, _, h => by simp at h
  | a :: ws, [], p, h, _ => by simp at h
  | a :: ws, z :: zs, 0, _, _ => by
    simp only [List.set_cons_zero, costL, List.getD_cons_zero]
    rw [Int.mul_add, Int.mul_one]; omega
  | a :: ws, z :: zs, p + 1, h, k => by
    simp only [List.set_cons_succ, costL, List.getD_cons_succ]
    rw [cost_set ws zs p (by simpa using h) (by simpa using k)]; omega
theorem cost_bump (ws : List Int) : ∀ (ps : List Nat) (zs : List Int), zs.length = ws.length → (∀ p ∈ ps, p < ws.length) → costL ws (bump zs ps) = costL ws zs + (ps.map (fun p => ws.getD p 0)).sum
  | [], zs, _, _ => by simp [bump]
  | q :: r, zs, hl, h => by
    show costL ws (bump (zs.set q (zs.getD q 0 + 1)) r) = _
    have hq := h q List.mem_cons_self
    rw [cost_bump ws r _ (by rw [List.length_set]; exact hl) (fun p hp => h p (List.mem_cons_of_mem _ hp)), cost_set ws zs q (by omega) hq]
    simp; omega
theorem cost_bumps (ws ls : List Int) (ps : List Nat) (x : Nat → Nat) (hp : ∀ p ∈ ps, p < ws.length) (hm : ps.map (fun p => ws.getD p 0) = ls) : ∀ (i : Nat) (zs : List Int), zs.length = ws.length → costL ws (bumps ps x i zs) = costL ws zs + cN ls x i
  | 0, zs, _ => by simp [bumps, cN]
  | i + 1, zs, hl => by
    unfold bumps
    rw [cost_bumps ws ls ps x hp hm i _ (by rw [bump_len]; exact hl), cost_bump ws _ _ hl (fun p h => hp p (List.mem_of_mem_take h)), List.map_take, hm]
    have e : cN ls x (i + 1) = cN ls x i + tk ls (x i) := rfl
    rw [e]; unfold tk; omega
theorem cost_zero : ∀ (ws : List Int) (n : Nat), costL ws (List.replicate n 0) = 0
  | [], n => by cases n <;> rfl
  | a :: ws, 0 => rfl
  | a :: ws, n + 1 => by rw [List.replicate_succ]; simp only [costL, cost_zero ws n]; simp
theorem kpart_zero : kpart 0 = 0 := by decide
theorem kraft_zero : ∀ n : Nat, kraftL (List.replicate n 0) = 0
  | 0 => rfl
  | n + 1 => by rw [List.replicate_succ]; simp only [kraftL, kraft_zero n, kpart_zero]; rfl
theorem kraft_set : ∀ (zs : List Int) (p : Nat), p < zs.length → kraftL zs = kpart (zs.getD p 0) + kraftL (zs.set p 0)
  | [], p, h => by simp at h
  | z :: zs, 0, _ => by simp [kraftL, kpart_zero]
  | z :: zs, p + 1, h => by
    simp only [List.set_cons_succ, kraftL, List.getD_cons_succ]
    have := kraft_set zs p (by simpa using h)
    omega
theorem all_zero (zs : List Int) (h : ∀ p, p < zs.length → zs.getD p 0 = 0) : zs = List.replicate zs.length 0 := by
  apply List.ext_getElem (by simp)
  intro i h1 h2
  have := h i h1
  simpa [List.getD, h1] using this
theorem kraft_at : ∀ (ps : List Nat) (zs : List Int), ps.Nodup → (∀ p ∈ ps, p < zs.length) → (∀ p, p < zs.length → p ∉ ps → zs.getD p 0 = 0) → kraftL zs = (ps.map (fun p => kpart (zs.getD p 0))).sum
  | [], zs, _, _, h => by
    rw [all_zero zs (fun p hp => h p hp (by simp)), kraft_zero]; rfl
  | q :: r, zs, hn, hp, h => by
    obtain ⟨h1, h2⟩ := List.nodup_cons.1 hn
    have hq := hp q List.mem_cons_self
    rw [kraft_set zs q hq, kraft_at r (zs.set q 0) h2 (fun p hpr => by rw [List.length_set]; exact hp p (List.mem_cons_of_mem _ hpr)) (fun p hpl hpr => by
      by_cases e : q = p
      · subst e; rw [getD_set_eq _ _ _ hq]
      · rw [getD_set_ne _ _ _ _ e]
        exact h p (by simpa using hpl) (by intro hm; rcases List.mem_cons.1 hm with h3 | h3; exact e h3.symm; exact hpr h3))]
    have : r.map (fun p => kpart ((zs.set q 0).getD p 0)) = r.map (fun p => kpart (zs.getD p 0)) := by
      apply List.map_congr_left
      intro p hpr
      rw [getD_set_ne]
      rintro rfl
      exact h1 hpr
    rw [this]
    simp
theorem sum_map_get (f : Nat → Int) (g : Nat → Nat) : ∀ (ps : List Nat), (∀ j, j < ps.length → f (ps.getD j 0) = (g j : Int)) → (ps.map f).sum = ((sumN g ps.length : Nat) : Int) := by
  intro ps
  generalize hn : ps.length = n
  induction n generalizing ps with
  | zero => intro _; rw [List.eq_nil_of_length_eq_zero hn]; rfl
  | succ n ih =>
    intro h
    obtain ⟨S, z, hS⟩ : ∃ S z, ps = S ++ [z] := ⟨ps.dropLast, ps.getLast (by intro e; rw [e] at hn; simp at hn), (List.dropLast_concat_getLast _).symm⟩
    subst hS
    have hl : S.length = n := by simpa using hn
    have h1 := ih S hl (fun j hj => by
      have := h j (by omega)
      rw [List.getD, List.getElem?_append_left (by omega)] at this
      exact this)
    have h2 := h n (by omega)
    rw [List.getD, List.getElem?_append_right (by omega), hl] at h2
    simp at h2
    rw [List.map_append, List.sum_append, h1]
    simp [sumN, h2]
end Go.Proofs.Ytokdlmpnokmniaa
