/-
  A byte over and over, on paper; a row that is filled.
-/
import Derived.Test.YtifoldonmmobpaaDoorAwake7
import Derived.Test.YtifoldonmmobpaaDoorMask
namespace Go.Proofs.YtifoldonmmobpaaDoor
open Go.RowKit
set_option linter.unusedVariables false
set_option linter.unusedSimpArgs false

/-! ## One byte over and over, on paper -/
theorem one_getD (N : Nat) (c : UInt8) (i : Nat) (h : i < N) : (List.replicate N c).getD i 0 = c := by
  simp [List.getD, h]
theorem shr_one (N : Nat) (c : UInt8) : ∀ (m p a : Nat), p ≤ a → a + m ≤ N → shr (List.replicate N c) p a m = m
  | 0, p, a, _, _ => rfl
  | m + 1, p, a, h1, h2 => by
    rw [shr, if_pos (by rw [one_getD N c p (by omega), one_getD N c a (by omega)]), shr_one N c m (p + 1) (a + 1) (by omega) (by omega)]
theorem cand_one (N : Nat) (c : UInt8) (a d : Nat) (ha : a ≤ N) : candN (List.replicate N c) a d = min 258 (N - a) := by
  rw [candN, shr_one N c _ _ _ (by omega) (by rw [mostN, List.length_replicate]; omega), mostN, List.length_replicate]
theorem long_one (N : Nat) (c : UInt8) (a : Nat) (ha : a ≤ N) (h1 : 1 ≤ a) : longN (List.replicate N c) a = if 3 ≤ N - a then (min 258 (N - a), 1) else (0, 0) := by
  by_cases h : 3 ≤ N - a
  · rw [if_pos h, long_of (n := min 258 (N - a)) (d := 1) (.inr ⟨by omega, by omega, (cand_one N c a 1 ha).symm, by omega, fun d h1 h2 => by rw [cand_one N c a d ha]; omega⟩), if_neg (by decide)]
  · rw [if_neg h, long_of (n := 2) (d := 0) (.inl ⟨rfl, rfl, fun d h1 h2 => by rw [cand_one N c a d ha]; omega⟩), if_pos rfl]
theorem long_zero (L : List UInt8) : longN L 0 = (0, 0) := by
  rw [long_of (n := 2) (d := 0) (.inl ⟨rfl, rfl, fun d h1 h2 => by omega⟩), if_pos rfl]
theorem lazy_low (lv : Int) (L : List UInt8) (i : Nat) (h1 : 1 ≤ lv) (h6 : lv ≤ 6) : lazyN lv L i = longN L i := by
  rw [lazyN, if_neg (by omega), if_neg (by omega)]
/-- The token from a place on, and where it ends. -/
theorem step_zero (lv : Int) (N : Nat) (c : UInt8) (h1 : 1 ≤ lv) (h6 : lv ≤ 6) (hN : 0 < N) : stepT lv (List.replicate N c) 0 = (⟨0, 0, (c.toNat : Int)⟩, 1) := by
  rw [step_lit (by rw [lazy_low lv _ _ h1 h6, long_zero]), litT, one_getD N c 0 hN]
theorem step_one (lv : Int) (N : Nat) (c : UInt8) (i : Nat) (h1 : 1 ≤ lv) (h6 : lv ≤ 6) (hi : 1 ≤ i) (hN : i < N) : stepT lv (List.replicate N c) i = if 3 ≤ N - i then (⟨(min 258 (N - i) : Nat), 1, 0⟩, i + min 258 (N - i)) else (⟨0, 0, (c.toNat : Int)⟩, i + 1) := by
  have e := lazy_low lv (List.replicate N c) i h1 h6
  rw [long_one N c i (by omega) hi] at e
  by_cases h : 3 ≤ N - i
  · rw [if_pos h] at e ⊢
    rw [step_tok (by rw [e]; show min 258 (N - i) ≠ 0; omega), e]
    rfl
  · rw [if_neg h] at e ⊢
    rw [step_lit (by rw [e]), litT, one_getD N c i hN]

/-! ## A row that is filled -/
def fillR (N : Nat) (c : Int) (j : Nat) : List Int := List.replicate j c ++ List.replicate (N - j) 0
theorem fillR_len (N : Nat) (c : Int) (j : Nat) (h : j ≤ N) : (fillR N c j).length = N := by simp [fillR]; omega
theorem fillR_set (N : Nat) (c : Int) (j : Nat) (h : j < N) : (fillR N c j).set j c = fillR N c (j + 1) := by
  obtain ⟨k, rfl⟩ : ∃ k, N = j + (k + 1) := ⟨N - j - 1, by omega⟩
  rw [fillR, fillR, show j + (k + 1) - j = k + 1 by omega, show j + (k + 1) - (j + 1) = k by omega, List.set_append_right _ _ (by simp), List.length_replicate, Nat.sub_self, List.replicate_succ, List.set_cons_zero, List.replicate_succ', List.append_assoc]
  rfl
theorem fillR_full (N : Nat) (c : UInt8) : (fillR N (c.toNat : Int) N).map (Value.int .u8) = (List.replicate N c).map (fun b => Value.int .u8 (b.toNat : Int)) := by
  simp [fillR]
theorem rowB_own {w : World} {g c n : Nat} {L : List UInt8} (hg : g < w.heap.size) (h : w.ownsRow 0 5 1 (.slice (some ⟨g, 0, none⟩) n c) n (L.map (fun b => Value.int .u8 (b.toNat : Int)))) (hn : n = L.length) : RowB w w.heap.size (some ⟨g, 0, none⟩) L := fun hl => by
  refine ⟨g, 0, rfl, hg, fun i hi => ?_⟩
  rw [Nat.zero_add, h.cellAt i (by omega), List.getElem?_map, List.getElem?_eq_getElem hi]
  simp [List.getD, hi]
end Go.Proofs.YtifoldonmmobpaaDoor
