/-
  Package-merge on paper: limits; weights that are alike; limits that are just enough.
-/
import Derived.Test.YtngllecfhkgckaaPmD
namespace Go.Proofs.Ytngllecfhkgckaa
open Go.RowKit
set_option linter.unusedVariables false
set_option linter.unusedSimpArgs false

def shf (d : Nat) (x : Nat → Nat) : Nat → Nat := fun r => if r < d then 0 else x (r - d)
theorem wN_low (x : Nat → Nat) : ∀ d, (∀ r, r < d → x r = 0) → wN x d = 0
  | 0, _ => rfl
  | d + 1, h => by unfold wN; rw [wN_low x d (fun r hr => h r (by omega)), h d (by omega)]; simp
theorem cN_low (ls : List Int) (x : Nat → Nat) : ∀ d, (∀ r, r < d → x r = 0) → cN ls x d = 0
  | 0, _ => rfl
  | d + 1, h => by unfold cN; rw [cN_low ls x d (fun r hr => h r (by omega)), h d (by omega), tk_zero]; rfl
theorem wN_shift (x y : Nat → Nat) (d : Nat) (h0 : ∀ r, r < d → x r = 0) : ∀ i, (∀ r, r < i → x (d + r) = y r) → wN x (d + i) = 2 ^ d * wN y i
  | 0, _ => by rw [Nat.add_zero, wN_low x d h0]; simp [wN]
  | i + 1, h => by
    show wN x (d + i) + x (d + i) * 2 ^ (d + i) = 2 ^ d * (wN y i + y i * 2 ^ i)
    rw [wN_shift x y d h0 i (fun r hr => h r (by omega)), h i (by omega), Nat.mul_add, Nat.pow_add]
    congr 1
    rw [Nat.mul_left_comm]
theorem cN_shift (ls : List Int) (x y : Nat → Nat) (d : Nat) (h0 : ∀ r, r < d → x r = 0) : ∀ i, (∀ r, r < i → x (d + r) = y r) → cN ls x (d + i) = cN ls y i
  | 0, _ => by rw [Nat.add_zero, cN_low ls x d h0]; rfl
  | i + 1, h => by
    show cN ls x (d + i) + tk ls (x (d + i)) = cN ls y i + tk ls (y i)
    rw [cN_shift ls x y d h0 i (fun r hr => h r (by omega)), h i (by omega)]
/-- Any counts that fill the room cost no less. -/
theorem least_le (ls : List Int) (hs : Srd ls) (h2 : 2 ≤ ls.length) (b : Nat) (hb : 1 ≤ b) (y : Nat → Nat) (hy : ∀ r, r < b → y r ≤ ls.length) (hw : wN y b + 2 ^ b = ls.length * 2 ^ b) : leastL ls b ≤ cN ls y b := by
  obtain ⟨B, rfl⟩ : ∃ B, b = B + 1 := ⟨b - 1, by omega⟩
  obtain ⟨n, hn⟩ : ∃ n, ls.length = n + 2 := ⟨ls.length - 2, by omega⟩
  have e1 : (n + 1) * 2 * 2 ^ B = (n + 1) * 2 ^ (B + 1) := by rw [Nat.mul_assoc, Nat.mul_comm 2 (2 ^ B), ← Nat.pow_succ]
  have hw2 : wN y (B + 1) = (2 * ls.length - 2) * 2 ^ B := by
    rw [hn, show 2 * (n + 2) - 2 = (n + 1) * 2 by omega, e1]
    rw [hn, show n + 2 = (n + 1) + 1 by omega, Nat.add_mul (n + 1) 1, Nat.one_mul] at hw
    omega
  have := (row_least ls hs B _ y (fun r hr => hy r (by omega)) hw2).2
  unfold leastL
  rw [if_neg (by omega), Nat.add_sub_cancel]
  exact this
/-- A lesser limit never costs less. -/
theorem least_mono (ls : List Int) (hs : Srd ls) (h0 : ∀ z ∈ ls, 0 ≤ z ∧ z ≤ 1048576) (a b : Nat) (ha : 1 ≤ a) (hab : a ≤ b) (hf : ls.length ≤ 2 ^ a) : leastL ls b ≤ leastL ls a := by
  by_cases h2 : 2 ≤ ls.length
  · have hC := cntF ls a hs h0 h2 ha hf
    obtain ⟨x, hx⟩ : ∃ x, x = cnt ls (a - 1) (2 * ls.length - 2) := ⟨_, rfl⟩
    rw [← hx] at hC
    obtain ⟨d, rfl⟩ : ∃ d, b = d + a := ⟨b - a, by omega⟩
    have hl0 : ∀ r, r < d → shf d x r = 0 := fun r hr => by unfold shf; rw [if_pos hr]
    have hl1 : ∀ r, r < a → shf d x (d + r) = x r := fun r hr => by unfold shf; rw [if_neg (by omega), show d + r - d = r by omega]
    have h := least_le ls hs h2 (d + a) (by omega) (shf d x) (fun r hr => by
      unfold shf
      split
      · omega
      · exact hC.le _ (by omega)) (by
      rw [wN_shift _ x d hl0 a hl1, Nat.pow_add, Nat.mul_left_comm ls.length, ← hC.room, Nat.mul_add])
    rw [cN_shift ls _ x d hl0 a hl1, ← hC.cost] at h
    exact h
  · unfold leastL
    rw [if_pos (by omega), if_pos (by omega)]
    exact Int.le_refl _

def powS (es : List Nat) : Nat := (es.map (2 ^ ·)).sum
theorem powS_cons (a : Nat) (es : List Nat) : powS (a :: es) = 2 ^ a + powS es := by simp [powS]
theorem halve : ∀ es : List Nat, ∃ z rest, powS es = z + 2 * powS rest ∧ rest.length + z = es.length ∧ (0 ∈ es → 1 ≤ z)
  | [] => ⟨0, [], by simp [powS], rfl, by simp⟩
  | 0 :: es => by
    obtain ⟨z, rest, h1, h2, h3⟩ := halve es
    exact ⟨z + 1, rest, by rw [powS_cons, h1]; simp; omega, by simp only [List.length_cons]; omega, fun _ => by omega⟩
  | (a + 1) :: es => by
    obtain ⟨z, rest, h1, h2, h3⟩ := halve es
    exact ⟨z, a :: rest, by rw [powS_cons, powS_cons, h1, Nat.pow_succ]; omega, by simp only [List.length_cons]; omega, fun h => h3 (by simpa using h)⟩
theorem powS_ones (k : Nat) (es : List Nat) : powS (List.replicate k 0 ++ es) = k + powS es := by
  induction k with
  | zero => simp
  | succ k ih => rw [List.replicate_succ, List.cons_append, powS_cons, ih]; simp; omega
/-- A whole code has no code longer than one less than it has codes. -/
theorem depth_le : ∀ (M : Nat) (es : List Nat), powS es = 2 ^ M → 0 ∈ es → M + 1 ≤ es.length
  | 0, es, _, h => List.length_pos_of_mem h
  | M + 1, es, h, h0 => by
    obtain ⟨z, rest, h1, h2, h3⟩ := halve es
    have h4 := h3 h0
    rw [h, Nat.pow_succ] at h1
    obtain ⟨y, rfl⟩ : ∃ y, z = 2 * y := ⟨z / 2, by omega⟩
    have := depth_le M (List.replicate y 0 ++ rest) (by rw [powS_ones]; omega) (by simp; omega)
    rw [List.length_append, List.length_replicate] at this
    omega
theorem sumN_pow (f : Nat → Nat) : ∀ n, sumN (fun j => 2 ^ f j) n = powS ((List.range n).map f)
  | 0 => rfl
  | n + 1 => by rw [List.range_succ, List.map_append]; unfold powS; rw [List.map_append, List.sum_append]; have := sumN_pow f n; unfold powS at this; simp [sumN, this]
theorem lenJ_from (x : Nat → Nat) (r : Nat) : ∀ i, (∀ t, r ≤ t → t < i → 0 < x t) → i - r ≤ lenJ x 0 i
  | 0, _ => by omega
  | i + 1, h => by
    have ih := lenJ_from x r i (fun t h1 h2 => h t h1 (by omega))
    unfold lenJ
    by_cases hr : r ≤ i
    · rw [if_pos (h i hr (by omega))]; omega
    · omega
/-- From as many as there are weights on, a limit costs nothing more. -/
theorem least_stop (ls : List Int) (hs : Srd ls) (h0 : ∀ z ∈ ls, 0 ≤ z ∧ z ≤ 1048576) (b : Nat) (hb : 1 ≤ b) (hb15 : b ≤ 15) (hn : ls.length ≤ b + 1) : leastL ls b ≤ leastL ls 15 := by
  by_cases h2 : 2 ≤ ls.length
  · have hC := cntF ls 15 hs h0 h2 (by omega) (by omega)
    obtain ⟨x, hx⟩ : ∃ x, x = cnt ls (15 - 1) (2 * ls.length - 2) := ⟨_, rfl⟩
    rw [← hx] at hC
    obtain ⟨M, hM⟩ : ∃ M, M = lenJ x 0 15 := ⟨_, rfl⟩
    have hM15 : M ≤ 15 := by rw [hM]; exact lenJ_le x 0 15
    have hsum : sumN (fun j => 2 ^ (M - lenJ x j 15)) ls.length = 2 ^ M := by
      have e : ∀ j, j < ls.length → 2 ^ (15 - lenJ x j 15) = 2 ^ (15 - M) * 2 ^ (M - lenJ x j 15) := by
        intro j hj
        have := lenJ_anti x (Nat.zero_le j) 15
        rw [← hM] at this
        rw [← Nat.pow_add]; congr 1; omega
      have h3 := hC.sum
      rw [sumN_congr _ e, sumN_mul, show 2 ^ 15 = 2 ^ (15 - M) * 2 ^ M by rw [← Nat.pow_add]; congr 1; omega] at h3
      exact Nat.eq_of_mul_eq_mul_left (Nat.two_pow_pos _) h3
    rw [sumN_pow (fun j => M - lenJ x j 15)] at hsum
    have hd := depth_le M _ hsum (List.mem_map.2 ⟨0, List.mem_range.2 (by omega), by omega⟩)
    rw [List.length_map, List.length_range] at hd
    obtain ⟨d, hdb⟩ : ∃ d, d + b = 15 := ⟨15 - b, by omega⟩
    have hm : ∀ k r t, r + k = t → t < 15 → x r ≤ x t := by
      intro k
      induction k with
      | zero => intro r t h _; rw [show r = t by omega]; exact Nat.le_refl _
      | succ k ih => intro r t h ht; exact Nat.le_trans (hC.mono r (by omega)) (ih (r + 1) t (by omega) ht)
    have hl0 : ∀ r, r < d → x r = 0 := by
      intro r hr
      refine Nat.eq_zero_of_not_pos (fun hp => ?_)
      have := lenJ_from x r 15 (fun t h1 h2 => Nat.lt_of_lt_of_le hp (hm (t - r) r t (by omega) h2))
      rw [← hM] at this
      omega
    have hl1 : ∀ r, r < b → x (d + r) = (fun r => x (d + r)) r := fun r _ => rfl
    have hw := wN_shift x (fun r => x (d + r)) d hl0 b hl1
    have hc := cN_shift ls x (fun r => x (d + r)) d hl0 b hl1
    rw [hdb] at hw hc
    have hroom := hC.room
    rw [hw, show 2 ^ 15 = 2 ^ d * 2 ^ b by rw [← Nat.pow_add, hdb], ← Nat.mul_add, Nat.mul_left_comm] at hroom
    have := least_le ls hs h2 b hb (fun r => x (d + r)) (fun r hr => hC.le _ (by omega)) (Nat.eq_of_mul_eq_mul_left (Nat.two_pow_pos d) hroom)
    rw [hC.cost, hc]
    exact this
  · unfold leastL
    rw [if_pos (by omega), if_pos (by omega)]
    exact Int.le_refl _

theorem even_tab : ∀ k : Fin 9, ∀ l : Fin 16, 1 ≤ k.val → 1 ≤ l.val → ((2 ^ (15 - k.val) : Nat) : Int) * (1 + (k.val : Int) - (l.val : Int)) ≤ kpart (l.val : Int) ∧ (kpart (l.val : Int) = ((2 ^ (15 - k.val) : Nat) : Int) * (1 + (k.val : Int) - (l.val : Int)) → l.val ≤ k.val) ∧ (l.val < k.val → ((2 ^ (15 - k.val) : Nat) : Int) < kpart (l.val : Int)) := by decide +kernel
theorem tab_at (k : Nat) (z : Int) (hk : 1 ≤ k ∧ k ≤ 8) (hz : 1 ≤ z ∧ z ≤ 15) : ((2 ^ (15 - k) : Nat) : Int) * (1 + (k : Int) - z) ≤ kpart z ∧ (kpart z = ((2 ^ (15 - k) : Nat) : Int) * (1 + (k : Int) - z) → z ≤ k) ∧ (z < k → ((2 ^ (15 - k) : Nat) : Int) < kpart z) := by
  obtain ⟨l, rfl⟩ : ∃ l : Nat, z = (l : Int) := ⟨z.toNat, by omega⟩
  have h := even_tab ⟨k, by omega⟩ ⟨l, by omega⟩ hk.1 (by simp only; omega)
  simp only at h
  exact ⟨h.1, fun e => by have := h.2.1 e; omega, fun e => h.2.2 (by omega)⟩
theorem even_sum (k : Nat) (hk : 1 ≤ k ∧ k ≤ 8) : ∀ Z : List Int, (∀ z ∈ Z, 1 ≤ z ∧ z ≤ 15) → ((2 ^ (15 - k) : Nat) : Int) * ((1 + (k : Int)) * (Z.length : Int) - Z.sum) ≤ kraftL Z ∧ (kraftL Z = ((2 ^ (15 - k) : Nat) : Int) * ((1 + (k : Int)) * (Z.length : Int) - Z.sum) → ∀ z ∈ Z, z ≤ k)
  | [], _ => by simp [kraftL]
  | z :: Z, h => by
    obtain ⟨h1, h2⟩ := even_sum k hk Z (fun y hy => h y (List.mem_cons_of_mem _ hy))
    obtain ⟨t1, t2, _⟩ := tab_at k z hk (h z List.mem_cons_self)
    obtain ⟨c, hc⟩ : ∃ c : Int, c = ((2 ^ (15 - k) : Nat) : Int) := ⟨_, rfl⟩
    rw [← hc] at h1 h2 t1 t2 ⊢
    have e : c * ((1 + (k : Int)) * ((z :: Z).length : Int) - (z :: Z).sum) = c * (1 + (k : Int) - z) + c * ((1 + (k : Int)) * (Z.length : Int) - Z.sum) := by
      rw [← Int.mul_add, List.length_cons, List.sum_cons, Int.natCast_add, Int.mul_add]
      congr 1
      simp; omega
    rw [e]
    simp only [kraftL]
    refine ⟨by omega, fun he y hy => ?_⟩
    rcases List.mem_cons.1 hy with rfl | hy
    · exact t2 (by omega)
    · exact h2 (by omega) y hy
theorem all_max (k : Int) : ∀ Z : List Int, (∀ z ∈ Z, z ≤ k) → Z.sum ≤ k * (Z.length : Int) ∧ (Z.sum = k * (Z.length : Int) → ∀ z ∈ Z, z = k)
  | [], _ => by simp
  | z :: Z, h => by
    obtain ⟨h1, h2⟩ := all_max k Z (fun y hy => h y (List.mem_cons_of_mem _ hy))
    have hz := h z List.mem_cons_self
    have e : k * ((z :: Z).length : Int) = k * (Z.length : Int) + k := by rw [List.length_cons, Int.natCast_add, Int.mul_add]; simp
    rw [e, List.sum_cons]
    refine ⟨by omega, fun he y hy => ?_⟩
    rcases List.mem_cons.1 hy with rfl | hy
    · omega
    · exact h2 (by omega) y hy
theorem tight_sum (k : Nat) (hk : 1 ≤ k ∧ k ≤ 8) : ∀ Z : List Int, (∀ z ∈ Z, 1 ≤ z ∧ z ≤ k) → ((2 ^ (15 - k) : Nat) : Int) * (Z.length : Int) ≤ kraftL Z ∧ (kraftL Z = ((2 ^ (15 - k) : Nat) : Int) * (Z.length : Int) → ∀ z ∈ Z, z = k)
  | [], _ => by simp [kraftL]
  | z :: Z, h => by
    obtain ⟨h1, h2⟩ := tight_sum k hk Z (fun y hy => h y (List.mem_cons_of_mem _ hy))
    have hz := h z List.mem_cons_self
    obtain ⟨t1, t2, t3⟩ := tab_at k z hk (by omega)
    have hge : ((2 ^ (15 - k) : Nat) : Int) ≤ kpart z := by
      by_cases e : z < k
      · exact Int.le_of_lt (t3 e)
      · have e2 : z = k := by omega
        rw [e2] at t1 ⊢
        have : (1 : Int) + (k : Int) - (k : Int) = 1 := by omega
        rw [this, Int.mul_one] at t1
        exact t1
    obtain ⟨c, hc⟩ : ∃ c : Int, c = ((2 ^ (15 - k) : Nat) : Int) := ⟨_, rfl⟩
    rw [← hc] at h1 h2 t3 hge ⊢
    have e : c * ((z :: Z).length : Int) = c + c * (Z.length : Int) := by rw [List.length_cons, Int.natCast_add, Int.mul_add]; simp; omega
    rw [e]
    simp only [kraftL]
    refine ⟨by omega, fun he y hy => ?_⟩
    rcases List.mem_cons.1 hy with rfl | hy
    · by_cases hlt : y < k
      · have := t3 hlt; omega
      · omega
    · exact h2 (by omega) y hy

theorem leaves_all : ∀ (ws : List Int) (i : Nat), (∀ z ∈ ws, 0 < z) → (leavesL i ws).length = ws.length ∧ (leavesL i ws).map (·.2) = ws
  | [], i, _ => by simp [leavesL]
  | z :: r, i, h => by
    obtain ⟨h1, h2⟩ := leaves_all r (i + 1) (fun y hy => h y (List.mem_cons_of_mem _ hy))
    have hz := h z List.mem_cons_self
    unfold leavesL
    rw [if_pos hz]
    simp [h1, h2]
theorem mem_get {Z : List Int} {z : Int} (h : z ∈ Z) : ∃ p, p < Z.length ∧ Z.getD p 0 = z := by
  obtain ⟨j, hj, e⟩ := List.mem_iff_getElem.1 h
  exact ⟨j, hj, by simp [List.getD, hj, e]⟩
theorem get_mem {Z : List Int} {p : Nat} (h : p < Z.length) : Z.getD p 0 ∈ Z := by
  have : Z.getD p 0 = Z[p] := by simp [List.getD, h]
  rw [this]; exact List.getElem_mem h
theorem pow_two_ge (k : Nat) (h : 1 ≤ k) : 2 ≤ 2 ^ k := by
  have := Nat.pow_le_pow_right (n := 2) (by decide) h
  simpa using this
theorem pow_comp (k : Nat) (h : k ≤ 15) : ((2 ^ (15 - k) : Nat) : Int) * ((2 ^ k : Nat) : Int) = 32768 := by
  rw [← Int.natCast_mul, ← Nat.pow_add, show 15 - k + k = 15 by omega]; rfl
/-- Where the limit is just enough all codes are as long as it says. -/
theorem tight_all {ws : List Int} {lv : List Lf} {Z : List Int} (k : Nat) (hk : 1 ≤ k ∧ k ≤ 8) (hn : ws.length = 2 ^ k) (hp : ∀ z ∈ ws, 0 < z) (hs : SrtP lv (leavesL 0 ws)) (h : LensF ws lv k Z) : ∀ p, p < ws.length → Z.getD p 0 = k := by
  have hl : lv.length = 2 ^ k := by rw [hs.len, (leaves_all ws 0 hp).1, hn]
  have h2 := pow_two_ge k hk.1
  have hb : ∀ z ∈ Z, 1 ≤ z ∧ z ≤ k := by
    intro z hz
    obtain ⟨p, hp', rfl⟩ := mem_get hz
    rw [h.len] at hp'
    have h3 := (h.pos p hp').1 (hp _ (get_mem hp'))
    have h4 := (h.bd p hp').2
    omega
  have hkr := h.kraft
  rw [if_neg (by omega), if_neg (by omega)] at hkr
  have hc := pow_comp k (by omega)
  have ht := (tight_sum k hk Z hb).2 (by rw [hkr, h.len, hn, hc])
  intro p hpl
  exact ht _ (get_mem (by rw [h.len]; exact hpl))
theorem cost_rep (w : Int) : ∀ Z : List Int, costL (List.replicate Z.length w) Z = w * Z.sum
  | [] => by simp [costL]
  | z :: Z => by rw [List.length_cons, List.replicate_succ]; simp only [costL, cost_rep w Z, List.sum_cons, Int.mul_add]
theorem wN_const (n : Nat) : ∀ k, wN (fun _ => n) k + n = n * 2 ^ k
  | 0 => by simp [wN]
  | k + 1 => by
    have := wN_const n k
    show wN (fun _ => n) k + n * 2 ^ k + n = n * 2 ^ (k + 1)
    rw [Nat.pow_succ, ← Nat.mul_assoc]; omega
theorem cN_const (ls : List Int) (n : Nat) : ∀ k, cN ls (fun _ => n) k = (k : Int) * tk ls n
  | 0 => by simp [cN]
  | k + 1 => by
    show cN ls (fun _ => n) k + tk ls n = _
    rw [cN_const ls n k, Int.natCast_add, Int.add_mul]; simp
theorem rep_of_all (ls : List Int) (w : Int) (h : ∀ z ∈ ls, z = w) : ls = List.replicate ls.length w := List.eq_replicate_iff.2 ⟨rfl, h⟩
/-- As many weights that are alike as a power of two have lengths that are alike. -/
theorem even_all {lv : List Lf} {Z : List Int} (k : Nat) (w : Int) (hk : 1 ≤ k ∧ k ≤ 8) (hw : 0 < w ∧ w ≤ 1048576) (hs : SrtP lv (leavesL 0 (List.replicate (2 ^ k) w))) (h : LensF (List.replicate (2 ^ k) w) lv 15 Z) : ∀ p, p < 2 ^ k → Z.getD p 0 = k := by
  have hp : ∀ z ∈ List.replicate (2 ^ k) w, 0 < z := fun z hz => by rw [List.eq_of_mem_replicate hz]; exact hw.1
  have hl : lv.length = 2 ^ k := by rw [hs.len, (leaves_all _ 0 hp).1, List.length_replicate]
  have h2 := pow_two_ge k hk.1
  have hZl : Z.length = 2 ^ k := by rw [h.len, List.length_replicate]
  have hb : ∀ z ∈ Z, 1 ≤ z ∧ z ≤ 15 := by
    intro z hz
    obtain ⟨p, hp', rfl⟩ := mem_get hz
    rw [h.len] at hp'
    have h3 := (h.pos p hp').1 (hp _ (get_mem hp'))
    have h4 := (h.bd p hp').2
    omega
  have hls : lv.map (·.2) = List.replicate (2 ^ k) w := by
    have hpm : (lv.map (·.2)).Perm (List.replicate (2 ^ k) w) := by
      rw [← (leaves_all _ 0 hp).2]
      have h3 := (leaves_all (List.replicate (2 ^ k) w) 0 hp).2
      rw [h3]
      conv => rhs; rw [← h3]
      exact hs.perm.map _
    have := rep_of_all (lv.map (·.2)) w (fun z hz => List.eq_of_mem_replicate (hpm.mem_iff.1 hz))
    rw [this]; simp [hl]
  have hsrd : Srd (List.replicate (2 ^ k) w) := by rw [← hls]; exact srd_of hs.srt
  have hcost := h.cost
  rw [hls] at hcost
  have e1 := cost_rep w Z
  rw [hZl] at e1
  rw [e1] at hcost
  have hkr := h.kraft
  rw [if_neg (by omega), if_neg (by omega)] at hkr
  have hd : 15 - k + k = 15 := by omega
  have hl0 : ∀ r, r < 15 - k → shf (15 - k) (fun _ => 2 ^ k) r = 0 := fun r hr => by unfold shf; rw [if_pos hr]
  have hl1 : ∀ r, r < k → shf (15 - k) (fun _ => 2 ^ k) (15 - k + r) = (fun _ => 2 ^ k) r := fun r hr => by unfold shf; rw [if_neg (by omega)]
  have hws := wN_shift _ (fun _ => 2 ^ k) (15 - k) hl0 k hl1
  have hcs := cN_shift (List.replicate (2 ^ k) w) _ (fun _ => 2 ^ k) (15 - k) hl0 k hl1
  rw [hd] at hws hcs
  have hroom : wN (shf (15 - k) (fun _ => 2 ^ k)) 15 + 2 ^ 15 = (List.replicate (2 ^ k) w).length * 2 ^ 15 := by
    have h3 := wN_const (2 ^ k) k
    have h4 : 2 ^ 15 = 2 ^ (15 - k) * 2 ^ k := by rw [← Nat.pow_add, hd]
    rw [hws, List.length_replicate]
    conv => lhs; rw [h4]
    conv => rhs; rw [h4]
    rw [← Nat.mul_add, h3, Nat.mul_left_comm]
  have hle := least_le (List.replicate (2 ^ k) w) hsrd (by rw [List.length_replicate]; exact h2) 15 (by omega) _ (fun r hr => by
    rw [List.length_replicate]
    show (if r < 15 - k then 0 else 2 ^ k) ≤ 2 ^ k
    split
    · exact Nat.zero_le _
    · exact Nat.le_refl _) hroom
  rw [hcs, cN_const] at hle
  have etk : tk (List.replicate (2 ^ k) w) (2 ^ k) = w * ((2 ^ k : Nat) : Int) := by
    unfold tk
    rw [List.take_of_length_le (by simp)]
    generalize 2 ^ k = n
    induction n with
    | zero => simp
    | succ n ih => rw [List.replicate_succ, List.sum_cons, ih, Int.natCast_add, Int.mul_add]; simp; omega
  rw [etk, ← hcost, Int.mul_left_comm] at hle
  have hsum : Z.sum ≤ (k : Int) * ((2 ^ k : Nat) : Int) := Int.le_of_mul_le_mul_left hle hw.1
  have hc := pow_comp k (by omega)
  obtain ⟨t1, t2⟩ := even_sum k hk Z hb
  rw [hkr, hZl] at t1 t2
  obtain ⟨N, hN⟩ : ∃ N : Int, N = ((2 ^ k : Nat) : Int) := ⟨_, rfl⟩
  obtain ⟨c, hcc⟩ : ∃ c : Int, c = ((2 ^ (15 - k) : Nat) : Int) := ⟨_, rfl⟩
  rw [← hN] at t1 t2 hc hsum
  rw [← hcc] at t1 t2 hc
  have hcpos : 0 < c := by rw [hcc]; exact_mod_cast Nat.two_pow_pos (15 - k)
  have e2 : (1 + (k : Int)) * N - Z.sum = N + ((k : Int) * N - Z.sum) := by rw [Int.add_mul]; omega
  rw [e2, Int.mul_add, hc] at t1 t2
  have hge : 0 ≤ c * ((k : Int) * N - Z.sum) := Int.mul_nonneg (Int.le_of_lt hcpos) (by omega)
  have hz0 : c * ((k : Int) * N - Z.sum) = 0 := by omega
  have hall := t2 (by omega)
  have hzs : (k : Int) * N - Z.sum = 0 := by
    rcases Int.mul_eq_zero.1 hz0 with h | h
    · omega
    · exact h
  have := (all_max k Z hall).2 (by rw [hZl, ← hN]; omega)
  intro p hpl
  exact this _ (get_mem (by rw [hZl]; exact hpl))
end Go.Proofs.Ytngllecfhkgckaa
