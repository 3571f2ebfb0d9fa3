/-
  A tree of files on paper: what each call makes of it, and what it answers.
-/
import Derived.Test.YtilndmmjdbhmgaaDatQ
import Derived.Test.YtilndmmjdbhmgaaNodV
namespace Go.Proofs.Ytilndmmjdbhmgaa
set_option linter.unusedVariables false
set_option linter.unusedSimpArgs false

abbrev Nms := List (List UInt8 × Int)
structure NdP where
  v : NodeV
  names : Nms
  par : Int
  data : List Fp
structure FsP where
  nd : Int → Option NdP
  cnt : Nat
  next : Int
  quota : Int
  used : Int
  clock : Int

def getK (l : Nms) (k : List UInt8) : Option Int := (l.find? (fun p => p.1 == k)).map (·.2)
def delK (l : Nms) (k : List UInt8) : Nms := l.filter (fun p => p.1 != k)
def putK (l : Nms) (k : List UInt8) (i : Int) : Nms := l.takeWhile (fun p => decide (p.1 < k)) ++ (k, i) :: l.dropWhile (fun p => decide (p.1 < k))
/-- Names rise. -/
def OkK (l : Nms) : Prop := l.Pairwise (fun p q => p.1 < q.1)
def updN (f : Int → Option NdP) (i : Int) (o : Option NdP) : Int → Option NdP := fun j => if j = i then o else f j
theorem updN_same (f : Int → Option NdP) (i : Int) (o : Option NdP) : updN f i o i = o := by simp [updN]
theorem updN_other (f : Int → Option NdP) {i j : Int} (o : Option NdP) (h : j ≠ i) : updN f i o j = f j := by simp [updN, h]

theorem lt_irr (a : List UInt8) : ¬ a < a := List.lt_irrefl a
theorem lt_tr {a b c : List UInt8} (h : a < b) (k : b < c) : a < c := List.lt_trans h k
theorem lt_tri (a b : List UInt8) (h : ¬ a < b) (hn : a ≠ b) : b < a := by
  by_cases hb : b < a
  · exact hb
  · exact absurd (List.le_antisymm (List.not_lt.1 hb) (List.not_lt.1 h)) hn

theorem getK_mem {l : Nms} {k : List UInt8} {i : Int} (h : getK l k = some i) : (k, i) ∈ l := by
  unfold getK at h
  cases hf : l.find? (fun p => p.1 == k) with
  | none => rw [hf] at h; cases h
  | some p =>
    rw [hf] at h
    have h1 := List.mem_of_find?_eq_some hf
    have h2 := List.find?_some hf
    simp at h h2
    rw [← h2, ← h]; exact h1
theorem OkK.inj {l : Nms} (h : OkK l) {k : List UInt8} {i j : Int} (hi : (k, i) ∈ l) (hj : (k, j) ∈ l) : i = j := by
  induction l with
  | nil => cases hi
  | cons p t ih =>
    obtain ⟨h1, h2⟩ := List.pairwise_cons.1 h
    rcases List.mem_cons.1 hi with e1 | m1 <;> rcases List.mem_cons.1 hj with e2 | m2
    · rw [← e2] at e1; exact congrArg Prod.snd e1
    · have := h1 _ m2; rw [← e1] at this; exact absurd this (lt_irr _)
    · have := h1 _ m1; rw [← e2] at this; exact absurd this (lt_irr _)
    · exact ih h2 m1 m2
theorem getK_iff {l : Nms} (h : OkK l) {k : List UInt8} {i : Int} : getK l k = some i ↔ (k, i) ∈ l := by
  constructor
  · exact getK_mem
  · intro hm
    cases hg : getK l k with
    | some j => rw [h.inj hm (getK_mem hg)]
    | none =>
      unfold getK at hg
      rw [Option.map_eq_none_iff, List.find?_eq_none] at hg
      exact absurd (beq_self_eq_true _) (hg _ hm)
theorem getK_none {l : Nms} {k : List UInt8} : getK l k = none ↔ ∀ p ∈ l, p.1 ≠ k := by
  unfold getK
  rw [Option.map_eq_none_iff, List.find?_eq_none]
  simp
theorem delK_mem {l : Nms} {k : List UInt8} {p : List UInt8 × Int} : p ∈ delK l k ↔ p ∈ l ∧ p.1 ≠ k := by simp [delK]
theorem delK_ok {l : Nms} (h : OkK l) (k : List UInt8) : OkK (delK l k) := List.Pairwise.filter _ h
theorem putK_mem {l : Nms} {k : List UInt8} {i : Int} {p : List UInt8 × Int} : p ∈ putK l k i ↔ p = (k, i) ∨ p ∈ l := by
  unfold putK
  conv => rhs; rw [← List.takeWhile_append_dropWhile (p := fun p => decide (p.1 < k)) (l := l)]
  simp only [List.mem_append, List.mem_cons]
  constructor
  · rintro (h | h | h)
    · exact .inr (.inl h)
    · exact .inl h
    · exact .inr (.inr h)
  · rintro (h | h | h)
    · exact .inr (.inl h)
    · exact .inl h
    · exact .inr (.inr h)
theorem putK_ok {l : Nms} (h : OkK l) (k : List UInt8) (i : Int) (hn : getK l k = none) : OkK (putK l k i) := by
  have hne := getK_none.1 hn
  unfold putK OkK
  have e : l = l.takeWhile (fun p => decide (p.1 < k)) ++ l.dropWhile (fun p => decide (p.1 < k)) := (List.takeWhile_append_dropWhile).symm
  have h1 : ∀ p ∈ l.takeWhile (fun p => decide (p.1 < k)), p.1 < k := fun p hp => by simpa using mem_tw hp
  cases hd : l.dropWhile (fun p => decide (p.1 < k)) with
  | nil =>
    rw [List.pairwise_append]
    refine ⟨h.sublist (List.takeWhile_sublist _), List.pairwise_singleton _ _, ?_⟩
    intro p hp q hq
    simp at hq; subst hq
    exact h1 p hp
  | cons f t =>
    have hf := drop_first hd
    simp at hf
    have hfl : f ∈ l := (List.dropWhile_sublist _).subset (by rw [hd]; exact List.mem_cons_self)
    have hkf : k < f.1 := lt_tri _ _ (by simpa using hf) (hne f hfl)
    have hall := h
    unfold OkK at hall
    rw [e, hd, List.pairwise_append, List.pairwise_cons] at hall
    obtain ⟨a1, ⟨a2, a3⟩, a4⟩ := hall
    rw [List.pairwise_append, List.pairwise_cons, List.pairwise_cons]
    refine ⟨a1, ⟨?_, a2, a3⟩, ?_⟩
    · intro q hq
      rcases List.mem_cons.1 hq with rfl | hq
      · exact hkf
      · exact lt_tr hkf (a2 q hq)
    · intro p hp q hq
      rcases List.mem_cons.1 hq with rfl | hq
      · exact h1 p hp
      · exact a4 p hp q hq
theorem getK_put {l : Nms} (h : OkK l) (k : List UInt8) (i : Int) (hn : getK l k = none) (k' : List UInt8) : getK (putK l k i) k' = if k' = k then some i else getK l k' := by
  have hp := putK_ok h k i hn
  by_cases hk : k' = k
  · subst hk
    rw [if_pos rfl, getK_iff hp, putK_mem]; exact .inl rfl
  · rw [if_neg hk]
    cases hg : getK l k' with
    | some j => rw [getK_iff hp, putK_mem]; exact .inr (getK_mem hg)
    | none =>
      rw [getK_none] at hg ⊢
      intro p hp'
      rcases putK_mem.1 hp' with rfl | hp'
      · exact fun e => hk e.symm
      · exact hg p hp'
theorem getK_del {l : Nms} (h : OkK l) (k k' : List UInt8) : getK (delK l k) k' = if k' = k then none else getK l k' := by
  by_cases hk : k' = k
  · subst hk
    rw [if_pos rfl, getK_none]
    intro p hp
    exact (delK_mem.1 hp).2
  · rw [if_neg hk]
    cases hg : getK l k' with
    | some j => rw [getK_iff (delK_ok h k), delK_mem]; exact ⟨getK_mem hg, hk⟩
    | none =>
      rw [getK_none] at hg ⊢
      intro p hp
      exact hg p (delK_mem.1 hp).1
theorem putK_len (l : Nms) (k : List UInt8) (i : Int) : (putK l k i).length = l.length + 1 := by
  unfold putK
  have := congrArg List.length (List.takeWhile_append_dropWhile (p := fun p : List UInt8 × Int => decide (p.1 < k)) (l := l))
  simp only [List.length_append, List.length_cons] at *
  omega
theorem delK_len {l : Nms} (h : OkK l) {k : List UInt8} {i : Int} (hg : getK l k = some i) : (delK l k).length + 1 = l.length := by
  have hm := getK_mem hg
  clear hg
  induction l with
  | nil => cases hm
  | cons p t ih =>
    obtain ⟨h1, h2⟩ := List.pairwise_cons.1 h
    unfold delK
    rw [List.filter_cons]
    by_cases hp : p.1 = k
    · have hr : t.filter (fun p => p.1 != k) = t := by
        rw [List.filter_eq_self]
        intro q hq
        have := h1 q hq
        rw [hp] at this
        simp
        intro e
        rw [e] at this
        exact lt_irr _ this
      rw [if_neg (by simp [hp]), hr]; rfl
    · rcases List.mem_cons.1 hm with e | hm
      · exact absurd (congrArg Prod.fst e).symm hp
      · rw [if_pos (by simpa using hp)]
        simp only [List.length_cons]
        have := ih h2 hm
        unfold delK at this
        omega
end Go.Proofs.Ytilndmmjdbhmgaa
