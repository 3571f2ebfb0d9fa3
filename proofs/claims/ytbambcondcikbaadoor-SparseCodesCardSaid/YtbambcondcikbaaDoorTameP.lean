/-
  Tamed pieces, and bytes that become noughts again, on paper.
-/
import Derived.Test.YtbambcondcikbaaDoorDense
namespace Go.Proofs.YtbambcondcikbaaDoor
open Go.RowKit
set_option linter.unusedVariables false
set_option linter.unusedSimpArgs false

def fewS (l : List Pc) : Bool := l.all (fun p => decide (p.2.length ≤ 300)) && decide (l.length ≤ 40)
/-- One piece is tamed. -/
def tmStep (i : Nat) (p : Pc) (s : List Pc × Int) : List Pc × Int :=
  if p.2 = [] then s
  else (s.1 ++ [((if 0 < i ∨ p.1 % 2 = 1 then s.2 + p.1 % 1024 + 1 else s.2), p.2.take 60)], (if 0 < i ∨ p.1 % 2 = 1 then s.2 + p.1 % 1024 + 1 else s.2) + ((p.2.take 60).length : Int))
def tmG (l : List Pc) : Nat → List Pc × Int
  | 0 => ([], 0)
  | i + 1 => tmStep i (l.getD i (0, [])) (tmG l i)
def tmN (l : List Pc) : Nat := min l.length 12
def tmL (l : List Pc) : List Pc := (tmG l (tmN l)).1
def tmZ (l : List Pc) (size : Int) : Int := (tmG l (tmN l)).2 + (size % 1024) * (size / 1024 % 2)
def TmI (i : Nat) (s : List Pc × Int) : Prop :=
  0 ≤ s.2 ∧ s.2 ≤ 1084 * (i : Int) ∧ s.1.length ≤ i ∧ sumS s.1 ≤ 60 * i ∧ (∀ size : Int, s.2 ≤ size → okG size 0 s.1 = true) ∧ freeS s.1 ≤ s.2 + 1 ∧ (i = 0 → s.1 = []) ∧ ∀ p ∈ s.1, p.2.length ≤ 60 ∧ 0 ≤ p.1 ∧ p.1 ≤ 1084 * (i : Int)
theorem tm_inv (l : List Pc) : ∀ i, TmI i (tmG l i)
  | 0 => ⟨by simp [tmG], by simp [tmG], by simp [tmG], by simp [tmG, sumS], (fun size h => rfl), by simp [tmG, freeS], (fun _ => rfl), (fun p hp => by cases hp)⟩
  | i + 1 => by
    have H := tm_inv l i
    rw [tmG]
    generalize tmG l i = s at H ⊢
    obtain ⟨h1, h2, h3, h4, h5, h6, h7, h8⟩ := H
    obtain ⟨p, hp⟩ : ∃ p, p = l.getD i (0, []) := ⟨_, rfl⟩
    rw [← hp]
    unfold tmStep
    by_cases he : p.2 = []
    · rw [if_pos he]
      exact ⟨h1, by omega, by omega, by omega, h5, h6, (fun h => by omega), fun q hq => by have := h8 q hq; omega⟩
    rw [if_neg he]
    obtain ⟨a, ha⟩ : ∃ a, a = (if 0 < i ∨ p.1 % 2 = 1 then s.2 + p.1 % 1024 + 1 else s.2) := ⟨_, rfl⟩
    rw [← ha]
    have ha1 : s.2 ≤ a ∧ a ≤ s.2 + 1024 := by rw [ha]; split <;> omega
    have ha2 : freeS s.1 ≤ a := by
      rw [ha]
      split
      · omega
      · rename_i hn
        have : i = 0 := by omega
        rw [h7 this]
        show (0 : Int) ≤ s.2
        exact h1
    have hk : (p.2.take 60).length ≤ 60 ∧ p.2.take 60 ≠ [] := by
      refine ⟨by rw [List.length_take]; omega, ?_⟩
      intro e
      have := congrArg List.length e
      rw [List.length_take] at this
      cases hh : p.2 with
      | nil => exact he hh
      | cons _ _ => rw [hh] at this; simp at this
    obtain ⟨b, hb⟩ : ∃ b, b = p.2.take 60 := ⟨_, rfl⟩
    rw [← hb] at hk ⊢
    refine ⟨by show 0 ≤ a + (b.length : Int); omega, by show a + (b.length : Int) ≤ _; omega, by simp; omega, ?_, ?_, ?_, (fun h => by omega), ?_⟩
    · show sumS (s.1 ++ [(a, b)]) ≤ _
      rw [sumS, List.map_append, List.sum_append]
      have : (s.1.map fun p => p.2.length).sum ≤ 60 * i := h4
      simp; omega
    · intro size hz
      show okG size 0 (s.1 ++ [(a, b)]) = true
      have hz2 : a + (b.length : Int) ≤ size := hz
      rw [okG_split, h5 size (by omega)]
      show (true && okG size (freeS s.1) [(a, b)]) = true
      have hbe : b.isEmpty = false := by cases b with | nil => exact absurd rfl hk.2 | cons _ _ => rfl
      simp only [okG, hbe, Bool.true_and, Bool.not_false, Bool.and_true, Bool.and_eq_true, decide_eq_true_eq]
      omega
    · show freeS (s.1 ++ [(a, b)]) ≤ a + (b.length : Int) + 1
      rw [freeS, List.foldl_append]
      simp
    · intro q hq
      rcases List.mem_append.1 hq with h | h
      · have := h8 q h; omega
      · simp at h; subst h; simp only; omega
/-- What tamed pieces and their size are. -/
theorem tame_ok (l : List Pc) (size : Int) : okS (tmZ l size) (tmL l) = true ∧ 0 ≤ tmZ l size ∧ tmZ l size ≤ 20000 ∧ (tmL l).length ≤ 12 ∧ sumS (tmL l) ≤ 720 ∧ IntP (tmL l) := by
  obtain ⟨h1, h2, h3, h4, h5, h6, h7, h8⟩ := tm_inv l (tmN l)
  have hN : tmN l ≤ 12 := by unfold tmN; omega
  have hm : 0 ≤ (size % 1024) * (size / 1024 % 2) ∧ (size % 1024) * (size / 1024 % 2) ≤ 1023 := by
    rcases (by omega : size / 1024 % 2 = 0 ∨ size / 1024 % 2 = 1) with e | e <;> rw [e] <;> omega
  have hz : 0 ≤ tmZ l size ∧ tmZ l size ≤ 20000 ∧ (tmG l (tmN l)).2 ≤ tmZ l size := by unfold tmZ; omega
  refine ⟨?_, hz.1, hz.2.1, by unfold tmL; omega, by unfold tmL; omega, ?_⟩
  · have h9 := h5 _ hz.2.2
    rw [okS, decide_eq_true hz.1, decide_eq_true (show tmZ l size ≤ 1099511627776 by omega), decide_eq_true (show (tmL l).length ≤ 1000 by unfold tmL; omega)]
    exact h9
  · intro p hp
    have := h8 p hp
    omega
theorem tm_stop (l : List Pc) (size : Int) (i : Nat) (h : i = tmN l) : tmL l = (tmG l i).1 ∧ tmZ l size = (tmG l i).2 + (size % 1024) * (size / 1024 % 2) := by subst h; exact ⟨rfl, rfl⟩

theorem splice_get {α : Type} (X : List α) (a : Nat) (A : List α) (h : a + A.length ≤ X.length) (j : Nat) : (splice X a A)[j]? = if j < a then X[j]? else if j < a + A.length then A[j - a]? else X[j]? := by
  unfold splice
  by_cases h1 : j < a
  · rw [if_pos h1, List.getElem?_append_left (by simp; omega), List.getElem?_take_of_lt h1]
  · rw [if_neg h1, List.getElem?_append_right (by simp; omega)]
    have e : (X.take a).length = a := by simp; omega
    rw [e]
    by_cases h2 : j < a + A.length
    · rw [if_pos h2, List.getElem?_append_left (by omega)]
    · rw [if_neg h2, List.getElem?_append_right (by omega), List.getElem?_drop]
      congr 1
      omega
/-- Is a place in one of the first pieces? -/
def InP (l : List Pc) (i j : Nat) : Prop := ∃ m, m < i ∧ (l.getD m (0, [])).1.toNat ≤ j ∧ j < (l.getD m (0, [])).1.toNat + (l.getD m (0, [])).2.length
def BdP (l : List Pc) (N : Nat) : Prop := ∀ i, i < l.length → (l.getD i (0, [])).1.toNat + (l.getD i (0, [])).2.length ≤ N ∧ 0 ≤ (l.getD i (0, [])).1
theorem bdP_mem {l : List Pc} {N : Nat} (h : BdP l N) (i : Nat) : ∀ p ∈ l.take i, p.1.toNat + p.2.length ≤ N := by
  intro p hp
  obtain ⟨m, hm, rfl⟩ := List.getElem_of_mem (List.mem_of_mem_take hp)
  have := (h m hm).1
  simpa [List.getD, hm] using this
theorem denT_len (l : List Pc) (N : Nat) (h : BdP l N) (i : Nat) : (denS N (l.take i)).length = N := denS_len N _ (bdP_mem h i)
theorem den_out (l : List Pc) (N : Nat) (h : BdP l N) (j : Nat) : ∀ i, i ≤ l.length → ¬ InP l i j → (denS N (l.take i))[j]? = (List.replicate N (0 : UInt8))[j]?
  | 0, _, _ => by simp [denS]
  | i + 1, hi, hn => by
    have hn2 : ¬ InP l i j := fun ⟨m, h1, h2⟩ => hn ⟨m, by omega, h2⟩
    have hb := (h i (by omega)).1
    rw [denS_step N l i (by omega), splice_get _ _ _ (by rw [denT_len l N h i]; exact hb), den_out l N h j i (by omega) hn2]
    split
    · rfl
    · split
      · exact absurd ⟨i, by omega, by omega, by omega⟩ hn
      · rfl
/-- Bytes of the first pieces made noughts again. -/
def zerS (N : Nat) (l : List Pc) : Nat → List UInt8
  | 0 => denS N l
  | i + 1 => splice (zerS N l i) (l.getD i (0, [])).1.toNat (List.replicate (l.getD i (0, [])).2.length 0)
theorem zer_len (l : List Pc) (N : Nat) (h : BdP l N) : ∀ i, i ≤ l.length → (zerS N l i).length = N
  | 0, _ => by have := denT_len l N h l.length; rwa [List.take_length] at this
  | i + 1, hi => by
    have hb := (h i (by omega)).1
    have ih := zer_len l N h i (by omega)
    rw [zerS, length_splice _ _ _ (by rw [ih, List.length_replicate]; exact hb)]
    exact ih
theorem zer_get (l : List Pc) (N : Nat) (h : BdP l N) (j : Nat) (hj : j < N) : ∀ i, i ≤ l.length → (InP l i j → (zerS N l i)[j]? = some 0) ∧ (¬ InP l i j → (zerS N l i)[j]? = (denS N l)[j]?)
  | 0, _ => ⟨(fun ⟨m, h1, _⟩ => by omega), fun _ => rfl⟩
  | i + 1, hi => by
    obtain ⟨h1, h2⟩ := zer_get l N h j hj i (by omega)
    have hb := (h i (by omega)).1
    have hs := splice_get (zerS N l i) (l.getD i (0, [])).1.toNat (List.replicate (l.getD i (0, [])).2.length (0 : UInt8)) (by rw [zer_len l N h i (by omega), List.length_replicate]; exact hb) j
    rw [List.length_replicate] at hs
    rw [zerS, hs]
    by_cases hin : (l.getD i (0, [])).1.toNat ≤ j ∧ j < (l.getD i (0, [])).1.toNat + (l.getD i (0, [])).2.length
    · rw [if_neg (by omega), if_pos hin.2]
      refine ⟨fun _ => ?_, fun hn => absurd ⟨i, by omega, hin⟩ hn⟩
      rw [List.getElem?_replicate, if_pos (by omega)]
    · have e : (if j < (l.getD i (0, [])).1.toNat then (zerS N l i)[j]? else if j < (l.getD i (0, [])).1.toNat + (l.getD i (0, [])).2.length then (List.replicate (l.getD i (0, [])).2.length (0 : UInt8))[j - (l.getD i (0, [])).1.toNat]? else (zerS N l i)[j]?) = (zerS N l i)[j]? := by
        split
        · rfl
        · rw [if_neg (by omega)]
      rw [e]
      refine ⟨fun ⟨m, q1, q2⟩ => ?_, fun hn => h2 (fun ⟨m, q1, q2⟩ => hn ⟨m, by omega, q2⟩)⟩
      by_cases hmi : m = i
      · subst hmi; exact absurd q2 hin
      · exact h1 ⟨m, by omega, q2⟩
theorem zer_all (l : List Pc) (N : Nat) (h : BdP l N) : zerS N l l.length = List.replicate N 0 := by
  apply List.ext_getElem?
  intro j
  by_cases hj : j < N
  · obtain ⟨h1, h2⟩ := zer_get l N h j hj l.length (Nat.le_refl _)
    by_cases hin : InP l l.length j
    · rw [h1 hin, List.getElem?_replicate, if_pos hj]
    · rw [h2 hin]
      have := den_out l N h j l.length (Nat.le_refl _) hin
      rwa [List.take_length] at this
  · rw [List.getElem?_eq_none (by rw [zer_len l N h l.length (Nat.le_refl _)]; omega), List.getElem?_eq_none (by rw [List.length_replicate]; omega)]
/-- A piece of zeros, a byte at a time. -/
theorem zer_step (X : List UInt8) (a k : Nat) (h : a + k < X.length) : (splice X a (List.replicate k 0)).set (a + k) 0 = splice X a (List.replicate (k + 1) 0) := by
  apply List.ext_getElem?
  intro j
  rw [List.getElem?_set, splice_get X a _ (by rw [List.length_replicate]; omega), splice_get X a _ (by rw [List.length_replicate]; omega), length_splice X a _ (by rw [List.length_replicate]; omega)]
  simp only [List.length_replicate, List.getElem?_replicate]
  by_cases h1 : a + k = j
  · subst h1
    rw [if_pos rfl, if_pos (by omega), if_neg (by omega), if_pos (by omega), if_pos (by omega)]
  · rw [if_neg h1]
    by_cases h2 : j < a
    · rw [if_pos h2, if_pos h2]
    · rw [if_neg h2, if_neg h2]
      by_cases h3 : j < a + k
      · rw [if_pos h3, if_pos (by omega), if_pos (by omega), if_pos (by omega)]
      · rw [if_neg h3, if_neg (by omega)]
theorem zer_none (X : List UInt8) (a : Nat) : splice X a (List.replicate 0 0) = X := by simp [splice]
theorem ok_bd {size : Int} {l : List Pc} {N : Nat} (h : okS size l = true) (hN : size = (N : Int)) : BdP l N := by
  simp only [okS, Bool.and_eq_true, decide_eq_true_eq] at h
  have he := okG_each size l 0 (by omega) h.2
  intro i hi
  have e : l.getD i (0, []) = l[i] := by simp [List.getD, hi]
  rw [e]
  have := he l[i] (List.getElem_mem hi)
  omega
/-- A piece ends ahead of the next ones. -/
theorem okG_ahead (size : Int) : ∀ (l : List Pc) (f : Int) (m i : Nat), okG size f l = true → m < i → i < l.length → (l.getD m (0, [])).1 + ((l.getD m (0, [])).2.length : Int) < (l.getD i (0, [])).1 ∧ f ≤ (l.getD i (0, [])).1
  | [], _, _, _, _, _, hi => by simp at hi
  | p :: l, f, 0, 0, _, h, _ => by omega
  | p :: l, f, m, i + 1, h, hm, hi => by
    simp only [okG, Bool.and_eq_true, decide_eq_true_eq] at h
    have key : ∀ (l : List Pc) (f : Int) (i : Nat), okG size f l = true → i < l.length → f ≤ (l.getD i (0, [])).1 := by
      intro l
      induction l with
      | nil => intro f i _ hi; simp at hi
      | cons q l ih =>
        intro f i h hi
        simp only [okG, Bool.and_eq_true, decide_eq_true_eq] at h
        cases i with
        | zero => simp; omega
        | succ i =>
          have := ih _ i h.2 (by simpa using hi)
          simp at this ⊢
          omega
    have hk := key l _ i h.2 (by simpa using hi)
    cases m with
    | zero => simp at hk ⊢; omega
    | succ m =>
      have := okG_ahead size l _ m i h.2 (by omega) (by simpa using hi)
      simp at this hk ⊢
      omega
/-- Dense, each byte is where it was. -/
theorem den_at (size : Int) (l : List Pc) (N : Nat) (h : okS size l = true) (hN : size = (N : Int)) (i : Nat) (hi : i < l.length) :
    ((denS N l).drop (l.getD i (0, [])).1.toNat).take (l.getD i (0, [])).2.length = (l.getD i (0, [])).2 := by
  have hb := ok_bd h hN
  simp only [okS, Bool.and_eq_true, decide_eq_true_eq] at h
  have key : ∀ k, i < k → k ≤ l.length → ∀ j, j < (l.getD i (0, [])).2.length → (denS N (l.take k))[(l.getD i (0, [])).1.toNat + j]? = (l.getD i (0, [])).2[j]? := by
    intro k
    induction k with
    | zero => intro h; omega
    | succ k ih =>
      intro h1 h2 j hj
      have hbk := hb k (by omega)
      have hbi := hb i hi
      rw [denS_step N l k (by omega), splice_get _ _ _ (by rw [denT_len l N hb k]; exact hbk.1)]
      by_cases hki : k = i
      · subst hki
        rw [if_neg (by omega), if_pos (by omega)]
        congr 1
        omega
      · have := (okG_ahead size l 0 i k h.2 (by omega) (by omega)).1
        rw [if_pos (by omega)]
        exact ih (by omega) (by omega) j hj
  have hk := key l.length hi (Nat.le_refl _)
  rw [List.take_length] at hk
  apply List.ext_getElem?
  intro j
  by_cases hj : j < (l.getD i (0, [])).2.length
  · rw [List.getElem?_take_of_lt hj, List.getElem?_drop]
    exact hk j hj
  · rw [List.getElem?_eq_none (by rw [List.length_take]; omega), List.getElem?_eq_none (by omega)]
end Go.Proofs.YtbambcondcikbaaDoor
