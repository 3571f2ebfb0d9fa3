/-
  On paper: a name of around 255 bytes, a path of around 4096.
-/
import Derived.Test.YtamoojalfpghhaaDoorJoinN
namespace Go.Proofs.YtamoojalfpghhaaDoor
open Go.RowKit Go.Shelf
set_option linter.unusedVariables false
set_option linter.unusedSimpArgs false

theorem okP_of (p : List UInt8) : okP p = (!p.isEmpty && decide (p.length ≤ 255) && !(p == [46]) && !(p == [46, 46]) && !p.any badB) := by
  rw [okP, okN, indexAny_bad, strB_list, strB_size]; rfl
theorem rep_shape (c : UInt8) (n : Nat) (h : 3 ≤ n) : (List.replicate n c).isEmpty = false ∧ (List.replicate n c == [46]) = false ∧ (List.replicate n c == [46, 46]) = false := by
  refine ⟨by cases n with | zero => omega | succ k => rfl, ?_, ?_⟩
  · have : List.replicate n c ≠ [46] := fun e => by have := congrArg List.length e; simp at this; omega
    simpa using this
  · have : List.replicate n c ≠ [46, 46] := fun e => by have := congrArg List.length e; simp at this; omega
    simpa using this
theorem okP_rep (c : UInt8) (n : Nat) (h : 3 ≤ n) (hc : badB c = false) : okP (List.replicate n c) = decide (n ≤ 255) := by
  obtain ⟨h1, h2, h3⟩ := rep_shape c n h
  rw [okP_of, h1, h2, h3, List.length_replicate]
  have : (List.replicate n c).any badB = false := by
    rw [List.any_eq_false]; intro x hx; rw [List.eq_of_mem_replicate hx, hc]; simp
  rw [this]; simp
theorem skip_rep (c : UInt8) (n : Nat) (h : 3 ≤ n) : skipP (List.replicate n c) = false := by
  obtain ⟨h1, h2, _⟩ := rep_shape c n h
  rw [skipP, h1, h2]; rfl
theorem no47_rep (c : UInt8) (n : Nat) (h : c ≠ 47) : (47 : UInt8) ∉ List.replicate n c := fun e => h (List.eq_of_mem_replicate e).symm

theorem xs_parts (N : Nat) (h : 3 ≤ N ∧ N ≤ 4000) : partsOf (97 :: 47 :: List.replicate N 120) = if N ≤ 255 then some [[97], List.replicate N 120] else none := by
  have hp : pieces (97 :: 47 :: List.replicate N 120) = [[97], List.replicate N 120] := by
    have := pieces_cut [97] (List.replicate N 120) (by decide)
    rw [pieces_whole _ (no47_rep 120 N (by decide))] at this
    exact this
  have hk : keepP (pieces (97 :: 47 :: List.replicate N 120)) = [[97], List.replicate N 120] := by
    rw [hp, keepP, List.filter_cons_of_pos (by decide), List.filter_cons_of_pos (by rw [skip_rep 120 N h.1]; rfl), List.filter_nil]
  have hok : ([[97], List.replicate N 120] : List (List UInt8)).all okP = decide (N ≤ 255) := by
    rw [List.all_cons, List.all_cons, okP_rep 120 N h.1 (by decide), show okP [97] = true by decide +kernel]; simp
  unfold partsOf
  rw [if_neg (by rintro (h | h | h); cases h; simp at h; omega; simp at h), hk, hok]
  by_cases hN : N ≤ 255 <;> simp [hN]

def yf (i : Nat) : UInt8 := if i % 100 = 99 then 47 else 121
def blocks : Nat → List UInt8 → List UInt8
  | 0, r => r
  | k + 1, r => List.replicate 99 121 ++ 47 :: blocks k r
theorem range100 : (List.range 100).map yf = List.replicate 99 121 ++ [47] := by decide +kernel
theorem ys_split : ∀ k m, (List.range (100 * k + m)).map yf = blocks k ((List.range m).map yf)
  | 0, m => by rw [Nat.mul_zero, Nat.zero_add]; rfl
  | k + 1, m => by
    rw [show 100 * (k + 1) + m = 100 + (100 * k + m) by omega, List.range_add, List.map_append, range100, List.map_map]
    have : (yf ∘ fun x => 100 + x) = yf := by funext x; simp [yf]
    rw [this, ys_split k m, blocks, List.append_assoc]; rfl
theorem pieces_blocks : ∀ k r, pieces (blocks k r) = List.replicate k (List.replicate 99 121) ++ pieces r
  | 0, r => rfl
  | k + 1, r => by rw [blocks, pieces_cut _ _ (no47_rep 121 99 (by decide)), pieces_blocks k r]; rfl
theorem ys_tail (m : Nat) (h : m ≤ 99) : (List.range m).map yf = List.replicate m 121 := by
  rw [List.eq_replicate_iff]
  refine ⟨by simp, ?_⟩
  intro b hb
  obtain ⟨i, hi, rfl⟩ := List.mem_map.1 hb
  have := List.mem_range.1 hi
  rw [yf, if_neg (by omega)]
theorem ys_parts (M : Nat) (h : 4093 ≤ M ∧ M ≤ 4100) : if M ≤ 4096 then ∃ L, partsOf ((List.range M).map yf) = some L ∧ L.length = 41 else partsOf ((List.range M).map yf) = none := by
  split
  · rename_i hM
    obtain ⟨m, rfl⟩ : ∃ m, M = 100 * 40 + m := ⟨M - 4000, by omega⟩
    have hp := pieces_blocks 40 (List.replicate m 121)
    rw [pieces_whole _ (no47_rep 121 m (by decide))] at hp
    have hl := ys_split 40 m
    rw [ys_tail m (by omega)] at hl
    have hk : keepP (pieces (blocks 40 (List.replicate m 121))) = List.replicate 40 (List.replicate 99 (121 : UInt8)) ++ [List.replicate m (121 : UInt8)] := by
      rw [hp, keepP, List.filter_eq_self]
      intro p hp
      rcases List.mem_append.1 hp with h | h
      · rw [List.eq_of_mem_replicate h, skip_rep 121 99 (by decide)]; rfl
      · rw [List.mem_singleton.1 h, skip_rep 121 m (by omega)]; rfl
    refine ⟨List.replicate 40 (List.replicate 99 (121 : UInt8)) ++ [List.replicate m (121 : UInt8)], ?_, by simp⟩
    have hok : (List.replicate 40 (List.replicate 99 (121 : UInt8)) ++ [List.replicate m (121 : UInt8)]).all okP = true := by
      rw [List.all_eq_true]
      intro p hp
      rcases List.mem_append.1 hp with h | h
      · rw [List.eq_of_mem_replicate h, okP_rep 121 99 (by decide) (by decide)]; rfl
      · rw [List.mem_singleton.1 h, okP_rep 121 m (by omega) (by decide)]; exact decide_eq_true (by omega)
    unfold partsOf
    have hlen : ((List.range (100 * 40 + m)).map yf).length = 100 * 40 + m := by simp
    rw [if_neg ?_, hl, hk, hok]
    · rfl
    rintro (h | h | h)
    · rw [h, List.length_nil] at hlen; omega
    · rw [hlen] at h; omega
    · rw [hl, show (40 : Nat) = 39 + 1 from rfl, blocks] at h
      simp [List.replicate_succ] at h
  · rename_i hM
    unfold partsOf
    rw [if_pos (.inr (.inl (by simp; omega)))]

/-- A row that is filled up to j. -/
def fillI (f : Nat → Int) (N j : Nat) : List Int := (List.range N).map fun i => if i < j then f i else 0
theorem fill_len (f : Nat → Int) (N j : Nat) : (fillI f N j).length = N := by simp [fillI]
theorem fill_set (f : Nat → Int) (N j : Nat) : (fillI f N j).set j (f j) = fillI f N (j + 1) := by
  apply List.ext_getElem
  · simp [fillI]
  · intro i h1 h2
    rw [List.getElem_set]
    simp only [fillI, List.getElem_map, List.getElem_range]
    by_cases h : j = i
    · subst h; simp
    · rw [if_neg h]
      by_cases h3 : i < j
      · rw [if_pos h3, if_pos (by omega)]
      · rw [if_neg h3, if_neg (by omega)]
theorem fill_zero (f : Nat → Int) (N : Nat) : fillI f N 0 = List.replicate N 0 := by
  rw [List.eq_replicate_iff]
  refine ⟨by simp [fillI], fun b hb => ?_⟩
  simp [fillI] at hb
  exact hb.2.symm
theorem fill_full (f : Nat → Int) (N : Nat) : fillI f N N = (List.range N).map f := by
  apply List.map_congr_left
  intro i hi
  rw [if_pos (List.mem_range.1 hi)]
theorem str_fill (f : Nat → Int) (g : Nat → UInt8) (N : Nat) (h : ∀ i, UInt8.ofNat (f i).toNat = g i) : strOfNums (fillI f N N) = strB ((List.range N).map g) := by
  rw [fill_full, strOfNums, strB, List.map_map]
  congr 2
  apply List.map_congr_left
  intro i _
  exact h i
