/-
  Leaves in order, on paper: the lighter ahead, of two alike the one whose place is ahead.
-/
import Derived.Test.YtokdlmpnokmniaaSortB
namespace Go.Proofs.Ytokdlmpnokmniaa
open Go.RowKit
set_option linter.unusedVariables false
set_option linter.unusedSimpArgs false

def Bef (x y : Lf) : Prop := x.2 < y.2 ∨ (x.2 = y.2 ∧ x.1 < y.1)
theorem Bef.trans {x y z : Lf} (h : Bef x y) (k : Bef y z) : Bef x z := by unfold Bef at *; omega
theorem Bef.asymm {x y : Lf} (h : Bef x y) (k : Bef y x) : False := by unfold Bef at *; omega
/-- All of one row are ahead of all of another one. -/
def Cross (L R : List Lf) : Prop := ∀ x ∈ L, ∀ y ∈ R, x.1 < y.1
theorem app_at (A R q : List Lf) (t : Nat) (h : t < R.length) : (A ++ (R ++ q)).getD (A.length + t) (0, 0) = R.getD t (0, 0) := by
  rw [List.getD, List.getD, List.getElem?_append_right (by omega), show A.length + t - A.length = t by omega, List.getElem?_append_left h]
theorem getD_mem (R : List Lf) (t : Nat) (h : t < R.length) : R.getD t (0, 0) ∈ R := by
  have : R.getD t (0, 0) = R[t] := by simp [List.getD, h]
  rw [this]; exact List.getElem_mem h
theorem snoc_of (R : List Lf) (k : Nat) (h : R.length = k + 1) : ∃ S, R = S ++ [R.getD k (0, 0)] := by
  refine ⟨R.take k, ?_⟩
  have h2 : R.getD k (0, 0) = R[k]'(by omega) := by simp [List.getD, h]
  rw [h2, ← List.take_succ_eq_append_getElem (by omega), List.take_of_length_le (by omega)]
theorem last_bef {R : List Lf} (hs : R.Pairwise Bef) (k : Nat) (h : R.length = k + 1) : ∀ u ∈ R, u = R.getD k (0, 0) ∨ Bef u (R.getD k (0, 0)) := by
  obtain ⟨S, hS⟩ := snoc_of R k h
  generalize R.getD k (0, 0) = z at hS ⊢
  subst hS
  intro u hu
  rcases List.mem_append.1 hu with hu | hu
  · exact .inr ((List.pairwise_append.1 hs).2.2 u hu z (List.mem_singleton.2 rfl))
  · exact .inl (List.mem_singleton.1 hu)
theorem first_bef {R : List Lf} (hs : R.Pairwise Bef) (h : 0 < R.length) : ∀ u ∈ R, u = R.getD 0 (0, 0) ∨ Bef (R.getD 0 (0, 0)) u := by
  cases R with
  | nil => simp at h
  | cons y r =>
    intro u hu
    rcases List.mem_cons.1 hu with rfl | hu
    · exact .inl rfl
    · exact .inr ((List.pairwise_cons.1 hs).1 u hu)
theorem all_bef {R : List Lf} {x : Lf} (hs : R.Pairwise Bef) (h : ∀ k, R.length = k + 1 → Bef (R.getD k (0, 0)) x) : ∀ u ∈ R, Bef u x := by
  intro u hu
  obtain ⟨k, hk⟩ : ∃ k, R.length = k + 1 := ⟨R.length - 1, by have := List.length_pos_of_mem hu; omega⟩
  rcases last_bef hs k hk u hu with rfl | h1
  · exact h k hk
  · exact h1.trans (h k hk)
theorem all_aft {R : List Lf} {x : Lf} (hs : R.Pairwise Bef) (h : 0 < R.length → Bef x (R.getD 0 (0, 0))) : ∀ u ∈ R, Bef x u := by
  intro u hu
  have hk := List.length_pos_of_mem hu
  rcases first_bef hs hk u hu with rfl | h1
  · exact h hk
  · exact (h hk).trans h1
theorem ins_srt {x : Lf} {R1 R2 : List Lf} (hs : (R1 ++ R2).Pairwise Bef) (h1 : ∀ u ∈ R1, Bef u x) (h2 : ∀ u ∈ R2, Bef x u) : (R1 ++ x :: R2).Pairwise Bef := by
  rw [List.pairwise_append] at hs ⊢
  obtain ⟨a, b, c⟩ := hs
  refine ⟨a, List.pairwise_cons.2 ⟨h2, b⟩, ?_⟩
  intro u hu v hv
  rcases List.mem_cons.1 hv with rfl | hv
  · exact h1 u hu
  · exact c u hu v hv
theorem join_srt {A B : List Lf} (ha : A.Pairwise Bef) (hb : B.Pairwise Bef) (h : ∀ u ∈ A, ∀ v ∈ B, Bef u v) : (A ++ B).Pairwise Bef := List.pairwise_append.2 ⟨ha, hb, h⟩
/-- A row in order, of just these. -/
structure SrtP (S X : List Lf) : Prop where
  perm : S.Perm X
  srt : S.Pairwise Bef
theorem SrtP.len {S X : List Lf} (h : SrtP S X) : S.length = X.length := h.perm.length_eq
/-- Of two such rows there is one alone. -/
theorem srtP_eq : ∀ {S T X : List Lf}, SrtP S X → SrtP T X → S = T
  | [], T, X, h, k => by
    have := h.len; have h2 := k.len
    exact (List.eq_nil_of_length_eq_zero (by simp at this; omega)).symm
  | s :: S, [], X, h, k => by
    have := h.len; have h2 := k.len
    simp at this h2; omega
  | s :: S, t :: T, X, h, k => by
    have hp : (s :: S).Perm (t :: T) := h.perm.trans k.perm.symm
    have e : s = t := by
      have m1 : s ∈ t :: T := hp.mem_iff.1 List.mem_cons_self
      have m2 : t ∈ s :: S := hp.mem_iff.2 List.mem_cons_self
      rcases List.mem_cons.1 m1 with e | m1
      · exact e
      · rcases List.mem_cons.1 m2 with e | m2
        · exact e.symm
        · exact ((Bef.asymm ((List.pairwise_cons.1 h.srt).1 t m2) ((List.pairwise_cons.1 k.srt).1 s m1))).elim
    subst e
    rw [srtP_eq (S := S) (T := T) (X := T) ⟨hp.cons_inv, (List.pairwise_cons.1 h.srt).2⟩ ⟨List.Perm.refl _, (List.pairwise_cons.1 k.srt).2⟩]

/-- How the middle of two rows is found. -/
theorem sym_split {L R : List Lf} (hL : L.Pairwise Bef) (hR : R.Pairwise Bef) {p q D : List Lf} {a m b mid lo hi s : Nat} (hD : D = p ++ (L ++ (R ++ q))) (ha : p.length = a) (hm : a + L.length = m) (hb : m + R.length = b)
    (hmid : mid = (a + b) / 2) (hlo : (mid < m ∧ lo = mid + m - b ∧ hi = mid) ∨ (m ≤ mid ∧ lo = a ∧ hi = m)) (h1 : lo ≤ s) (h2 : s ≤ hi) (hl1 : 1 ≤ L.length) (hr1 : 1 ≤ R.length)
    (f1 : s = lo ∨ Bef (D.getD (s - 1) (0, 0)) (D.getD (mid + m - 1 - (s - 1)) (0, 0))) (f2 : s = hi ∨ Bef (D.getD (mid + m - 1 - s) (0, 0)) (D.getD s (0, 0))) :
    ∃ L1 L2 R1 R2, L = L1 ++ L2 ∧ R = R1 ++ R2 ∧ a + L1.length = s ∧ s + L2.length = m ∧ m + R1.length = mid + m - s ∧ mid + m - s + R2.length = b ∧ L1.length + R1.length + a = mid ∧ (∀ u ∈ L1 ++ R1, ∀ v ∈ L2 ++ R2, Bef u v) := by
  have hs1 : a ≤ s := by rcases hlo with h | h <;> omega
  have hs2 : s ≤ m := by rcases hlo with h | h <;> omega
  have hs3 : m ≤ mid + m - s := by rcases hlo with h | h <;> omega
  have hs4 : mid + m - s ≤ b := by rcases hlo with h | h <;> omega
  obtain ⟨L1, L2, rfl, e1, e2⟩ := split_at L (s - a) L.length rfl (by omega)
  obtain ⟨R1, R2, rfl, e3, e4⟩ := split_at R (mid - s) R.length rfl (by omega)
  simp only [List.length_append] at hm hb e2 e4 hl1 hr1
  have gL : ∀ t, t < L1.length → D.getD (a + t) (0, 0) = L1.getD t (0, 0) := by
    intro t ht
    have := app_at p L1 (L2 ++ ((R1 ++ R2) ++ q)) t ht
    rw [ha] at this
    rw [hD, ← this]; simp [List.append_assoc]
  have gL2 : ∀ t, t < L2.length → D.getD (s + t) (0, 0) = L2.getD t (0, 0) := by
    intro t ht
    have := app_at (p ++ L1) L2 ((R1 ++ R2) ++ q) t ht
    rw [List.length_append, ha, show a + L1.length = s by omega] at this
    rw [hD, ← this]; simp [List.append_assoc]
  have gR : ∀ t, t < R1.length → D.getD (m + t) (0, 0) = R1.getD t (0, 0) := by
    intro t ht
    have := app_at (p ++ (L1 ++ L2)) R1 (R2 ++ q) t ht
    rw [List.length_append, List.length_append, ha, show a + (L1.length + L2.length) = m by omega] at this
    rw [hD, ← this]; simp [List.append_assoc]
  have gR2 : ∀ t, t < R2.length → D.getD (m + R1.length + t) (0, 0) = R2.getD t (0, 0) := by
    intro t ht
    have := app_at (p ++ (L1 ++ L2) ++ R1) R2 q t ht
    rw [List.length_append, List.length_append, List.length_append, ha, show a + (L1.length + L2.length) + R1.length = m + R1.length by omega] at this
    rw [hD, ← this]; simp [List.append_assoc]
  obtain ⟨hL1, hL2, hL12⟩ := List.pairwise_append.1 hL
  obtain ⟨hR1, hR2, hR12⟩ := List.pairwise_append.1 hR
  refine ⟨L1, L2, R1, R2, rfl, rfl, by omega, by omega, by omega, by omega, by omega, ?_⟩
  intro u hu v hv
  rcases List.mem_append.1 hu with hu | hu
  · rcases List.mem_append.1 hv with hv | hv
    · exact hL12 u hu v hv
    · have k1 := List.length_pos_of_mem hu
      have k2 := List.length_pos_of_mem hv
      have f := f1.resolve_left (by rcases hlo with h | h <;> omega)
      have g1 := gL (L1.length - 1) (by omega)
      have g2 := gR2 0 k2
      rw [show a + (L1.length - 1) = s - 1 by omega] at g1
      rw [show m + R1.length + 0 = mid + m - 1 - (s - 1) by omega] at g2
      rw [g1, g2] at f
      have q1 : u = L1.getD (L1.length - 1) (0, 0) ∨ Bef u (L1.getD (L1.length - 1) (0, 0)) := last_bef hL1 _ (by omega) u hu
      have q2 := first_bef hR2 k2 v hv
      rcases q1 with rfl | q1 <;> rcases q2 with rfl | q2
      · exact f
      · exact f.trans q2
      · exact q1.trans f
      · exact (q1.trans f).trans q2
  · rcases List.mem_append.1 hv with hv | hv
    · have k1 := List.length_pos_of_mem hu
      have k2 := List.length_pos_of_mem hv
      have f := f2.resolve_left (by rcases hlo with h | h <;> omega)
      have g1 := gR (R1.length - 1) (by omega)
      have g2 := gL2 0 k2
      rw [show m + (R1.length - 1) = mid + m - 1 - s by omega] at g1
      rw [Nat.add_zero] at g2
      rw [g1, g2] at f
      have q1 : u = R1.getD (R1.length - 1) (0, 0) ∨ Bef u (R1.getD (R1.length - 1) (0, 0)) := last_bef hR1 _ (by omega) u hu
      have q2 := first_bef hL2 k2 v hv
      rcases q1 with rfl | q1 <;> rcases q2 with rfl | q2
      · exact f
      · exact f.trans q2
      · exact q1.trans f
      · exact (q1.trans f).trans q2
    · exact hR12 u hu v hv
end Go.Proofs.Ytokdlmpnokmniaa
