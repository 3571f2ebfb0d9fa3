/-
  What was written of a file, on paper: pieces that rise, none beside another; bytes put, cut, read; how many bytes fit.
-/
import Derived.Test.YtilndmmjdbhmgaaBase
namespace Go.Proofs.Ytilndmmjdbhmgaa
set_option linter.unusedVariables false
set_option linter.unusedSimpArgs false

/-- A piece: where it begins, and its bytes. -/
abbrev Fp := Int × List UInt8
def endP (p : Fp) : Int := p.1 + p.2.length
structure OkD (l : List Fp) : Prop where
  each : ∀ p ∈ l, 0 ≤ p.1 ∧ p.2 ≠ [] ∧ endP p ≤ 1099511627776
  apart : l.Pairwise (fun p q => endP p < q.1)
/-- Byte c is written at x. -/
def HasB (l : List Fp) (x : Int) (c : UInt8) : Prop := ∃ p ∈ l, p.1 ≤ x ∧ p.2[(x - p.1).toNat]? = some c

theorem OkD.nil : OkD [] := ⟨by simp, List.Pairwise.nil⟩
theorem HasB.lt {p : Fp} {x : Int} {c : UInt8} (h1 : p.1 ≤ x) (h : p.2[(x - p.1).toNat]? = some c) : x < endP p := by
  have := (List.getElem?_eq_some_iff.1 h).1
  unfold endP; omega
theorem hasB_append (a b : List Fp) (x : Int) (c : UInt8) : HasB (a ++ b) x c ↔ HasB a x c ∨ HasB b x c := by
  unfold HasB
  simp only [List.mem_append]
  constructor
  · rintro ⟨p, h | h, h2⟩
    · exact .inl ⟨p, h, h2⟩
    · exact .inr ⟨p, h, h2⟩
  · rintro (⟨p, h, h2⟩ | ⟨p, h, h2⟩)
    · exact ⟨p, .inl h, h2⟩
    · exact ⟨p, .inr h, h2⟩
theorem hasB_one (p : Fp) (x : Int) (c : UInt8) : HasB [p] x c ↔ p.1 ≤ x ∧ p.2[(x - p.1).toNat]? = some c := by simp [HasB]

/-- What pieces that are touched become. -/
def joinP (m : List Fp) (k : Int) (b : List UInt8) : Fp :=
  match m.head?, m.getLast? with
  | some f, some z => (min f.1 k, f.2.take (k - f.1).toNat ++ b ++ z.2.drop (k + b.length - z.1).toNat)
  | _, _ => (k, b)
def aheadP (l : List Fp) (k : Int) : List Fp := l.takeWhile (fun p => decide (endP p < k))
def touchP (l : List Fp) (k s : Int) : List Fp := (l.dropWhile (fun p => decide (endP p < k))).takeWhile (fun p => decide (p.1 ≤ s))
def behindP (l : List Fp) (k s : Int) : List Fp := (l.dropWhile (fun p => decide (endP p < k))).dropWhile (fun p => decide (p.1 ≤ s))
/-- Bytes b written at k. -/
def putP (l : List Fp) (k : Int) (b : List UInt8) : List Fp := aheadP l k ++ joinP (touchP l k (k + b.length)) k b :: behindP l k (k + b.length)

theorem split3 (l : List Fp) (k s : Int) : l = aheadP l k ++ (touchP l k s ++ behindP l k s) := by
  unfold aheadP touchP behindP
  rw [List.takeWhile_append_dropWhile, List.takeWhile_append_dropWhile]
theorem mem_tw {α : Type} {q : α → Bool} : ∀ {l : List α} {x : α}, x ∈ l.takeWhile q → q x = true
  | [], x, h => by simp at h
  | y :: l, x, h => by
    rw [List.takeWhile_cons] at h
    split at h
    · rename_i hq
      rcases List.mem_cons.1 h with rfl | h
      · exact hq
      · exact mem_tw h
    · cases h
theorem ahead_end {l : List Fp} {k : Int} : ∀ p ∈ aheadP l k, endP p < k := fun p hp => by
  have := mem_tw hp
  simpa using this
theorem drop_first {α : Type} {q : α → Bool} : ∀ {l : List α} {x : α} {t : List α}, l.dropWhile q = x :: t → q x = false
  | [], _, _, h => by simp at h
  | y :: l, x, t, h => by
    rw [List.dropWhile_cons] at h
    split at h
    · exact drop_first h
    · rename_i hq; cases h; simpa using hq
/-- From a place on, all pieces end no earlier. -/
theorem drop_end {l : List Fp} (h : OkD l) (k : Int) : ∀ p ∈ l.dropWhile (fun p => decide (endP p < k)), k ≤ endP p := by
  intro p hp
  cases hd : l.dropWhile (fun p => decide (endP p < k)) with
  | nil => rw [hd] at hp; cases hp
  | cons f t =>
    have hf := drop_first hd
    simp at hf
    have hap : (f :: t).Pairwise (fun p q => endP p < q.1) := by rw [← hd]; exact h.apart.sublist (List.dropWhile_sublist _)
    rw [hd] at hp
    rcases List.mem_cons.1 hp with rfl | hp'
    · exact hf
    · have h1 := (List.pairwise_cons.1 hap).1 p hp'
      have h2 : p ∈ l := (List.dropWhile_sublist _).subset (by rw [hd]; exact List.mem_cons_of_mem _ hp')
      have := (h.each p h2)
      unfold endP at *; omega
theorem touch_end {l : List Fp} (h : OkD l) (k s : Int) : ∀ p ∈ touchP l k s, k ≤ endP p ∧ p.1 ≤ s := by
  intro p hp
  unfold touchP at hp
  have h1 := mem_tw hp
  exact ⟨drop_end h k p (List.IsPrefix.subset (List.takeWhile_prefix _) hp), by simpa using h1⟩
theorem behind_at {l : List Fp} (h : OkD l) (k s : Int) : ∀ p ∈ behindP l k s, s < p.1 := by
  intro p hp
  unfold behindP at hp
  cases hd : (l.dropWhile (fun p => decide (endP p < k))).dropWhile (fun p => decide (p.1 ≤ s)) with
  | nil => rw [hd] at hp; cases hp
  | cons f t =>
    have hf := drop_first hd
    simp at hf
    have hap : (f :: t).Pairwise (fun p q => endP p < q.1) := by rw [← hd]; exact (h.apart.sublist (List.dropWhile_sublist _)).sublist (List.dropWhile_sublist _)
    rw [hd] at hp
    rcases List.mem_cons.1 hp with rfl | hp'
    · exact hf
    · have h1 := (List.pairwise_cons.1 hap).1 p hp'
      have h2 : f ∈ l := (List.dropWhile_sublist _).subset ((List.dropWhile_sublist _).subset (by rw [hd]; exact List.mem_cons_self))
      have := (h.each f h2)
      unfold endP at *; omega
/-- The joined piece, where some are touched. -/
theorem join_some {m : List Fp} (hm : m ≠ []) (k : Int) (b : List UInt8) : ∃ f z r y, m = f :: r ∧ m = y ++ [z] ∧ joinP m k b = (min f.1 k, f.2.take (k - f.1).toNat ++ b ++ z.2.drop (k + b.length - z.1).toNat) := by
  cases m with
  | nil => exact absurd rfl hm
  | cons f r =>
    refine ⟨f, (f :: r).getLast (by simp), r, (f :: r).dropLast, rfl, (List.dropLast_concat_getLast (by simp)).symm, ?_⟩
    unfold joinP
    rw [List.head?_cons, List.getLast?_eq_some_getLast (by simp)]
theorem join_none (k : Int) (b : List UInt8) : joinP [] k b = (k, b) := rfl
/-- Where it lies, and what it holds. -/
theorem join_ends {l : List Fp} (h : OkD l) {m : List Fp} (hml : m.Sublist l) (k : Int) (b : List UInt8) (hk : 0 ≤ k) (hb : b ≠ []) (ht : ∀ p ∈ m, k ≤ endP p ∧ p.1 ≤ k + b.length) (hmost : k + b.length ≤ 1099511627776) :
    0 ≤ (joinP m k b).1 ∧ (joinP m k b).1 ≤ k ∧ (joinP m k b).2 ≠ [] ∧ endP (joinP m k b) ≤ 1099511627776 ∧ (m = [] → joinP m k b = (k, b)) ∧
    (∀ f r, m = f :: r → (joinP m k b).1 = min f.1 k) ∧ (m = [] → endP (joinP m k b) = k + b.length) ∧ (∀ z y, m = y ++ [z] → endP (joinP m k b) = max (endP z) (k + b.length)) := by
  by_cases hm : m = []
  · subst hm
    rw [join_none]
    refine ⟨hk, by simp, hb, by simpa [endP] using hmost, fun _ => rfl, (fun f r e => by cases e), (fun _ => rfl), (fun z y e => by simp at e)⟩
  · obtain ⟨f, z, r, y, e1, e2, e3⟩ := join_some hm k b
    have hfm : f ∈ m := by rw [e1]; exact List.mem_cons_self
    have hzm : z ∈ m := by rw [e2]; simp
    have hf := h.each f (hml.subset hfm)
    have hz := h.each z (hml.subset hzm)
    have tf := ht f hfm
    have tz := ht z hzm
    have hl : ((f.2.take (k - f.1).toNat).length : Int) = k - min f.1 k := by
      rw [List.length_take]; unfold endP at tf; omega
    have hz2 : ((z.2.drop (k + b.length - z.1).toNat).length : Int) = max (endP z) (k + b.length) - (k + b.length) := by
      rw [List.length_drop]; unfold endP at *; omega
    have hend : endP (joinP m k b) = max (endP z) (k + b.length) := by
      rw [e3]; unfold endP; simp only [List.length_append]; push_cast; unfold endP at hz2; omega
    rw [hend]
    rw [e3]
    refine ⟨by simp only; omega, by simp only; omega, by simp [hb], by have := hz.2.2; omega, fun e => absurd e hm, ?_, fun e => absurd e hm, ?_⟩
    · intro f' r' e
      rw [e1] at e; cases e; rfl
    · intro z' y' e
      rw [e2] at e
      have := List.append_inj_right' e rfl
      cases this; rfl
theorem pair_sub {l m : List Fp} (h : OkD l) (hs : m.Sublist l) : m.Pairwise (fun p q => endP p < q.1) := h.apart.sublist hs
theorem put_ok {l : List Fp} (h : OkD l) (k : Int) (b : List UInt8) (hk : 0 ≤ k) (hb : b ≠ []) (hmost : k + b.length ≤ 1099511627776) : OkD (putP l k b) := by
  have hs := split3 l k (k + b.length)
  have hta := touch_end h k (k + b.length)
  have hba := behind_at h k (k + b.length)
  have haa := @ahead_end l k
  unfold putP
  generalize aheadP l k = A at *
  generalize touchP l k (k + b.length) = M at *
  generalize behindP l k (k + b.length) = Z at *
  have hAl : A.Sublist l := by rw [hs]; exact List.sublist_append_left _ _
  have hMl : M.Sublist l := by rw [hs]; exact (List.sublist_append_left _ _).trans (List.sublist_append_right _ _)
  have hZl : Z.Sublist l := by rw [hs]; exact (List.sublist_append_right _ _).trans (List.sublist_append_right _ _)
  obtain ⟨j1, j2, j3, j4, j5, j6, j7, j8⟩ := join_ends h hMl k b hk hb hta hmost
  have hap := h.apart
  rw [hs, List.pairwise_append, List.pairwise_append] at hap
  obtain ⟨a1, ⟨a2, a3, a4⟩, a5⟩ := hap
  constructor
  · intro p hp
    rcases List.mem_append.1 hp with hp | hp
    · exact h.each p (hAl.subset hp)
    · rcases List.mem_cons.1 hp with rfl | hp
      · exact ⟨j1, j3, j4⟩
      · exact h.each p (hZl.subset hp)
  · rw [List.pairwise_append, List.pairwise_cons]
    refine ⟨a1, ⟨?_, a3⟩, ?_⟩
    · intro q hq
      have hq1 := hba q hq
      by_cases hM : M = []
      · rw [j7 hM]; exact hq1
      · obtain ⟨f, z, r, y, e1, e2, e3⟩ := join_some hM k b
        rw [j8 z y e2]
        have := a4 z (by rw [e2]; simp) q hq
        omega
    · intro p hp q hq
      rcases List.mem_cons.1 hq with rfl | hq
      · have hp1 := haa p hp
        by_cases hM : M = []
        · rw [j5 hM]; exact hp1
        · obtain ⟨f, z, r, y, e1, e2, e3⟩ := join_some hM k b
          rw [j6 f r e1]
          have := a5 p hp f (by rw [e1]; simp)
          omega
      · exact a5 p hp q (List.mem_append.2 (.inr hq))
end Go.Proofs.Ytilndmmjdbhmgaa
