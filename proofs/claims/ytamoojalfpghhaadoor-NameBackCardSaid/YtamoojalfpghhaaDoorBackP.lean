/-
  On paper: names that are joined are parted as they were.
-/
import Derived.Test.YtamoojalfpghhaaDoorRJoin
import Derived.Test.YtamoojalfpghhaaDoorBoundsP
namespace Go.Proofs.YtamoojalfpghhaaDoor
open Go.RowKit Go.Shelf
set_option linter.unusedVariables false
set_option linter.unusedSimpArgs false

/-- A piece that may stand between slashes: no slash in it, and it is kept. -/
def Pc (p : List UInt8) : Prop := (47 : UInt8) ∉ p ∧ skipP p = false
theorem pc_of_ok {p : List UInt8} (h : okP p = true) : Pc p := by
  rw [okP_of] at h
  simp only [Bool.and_eq_true, Bool.not_eq_true'] at h
  obtain ⟨⟨⟨⟨h1, h2⟩, h3⟩, h4⟩, h5⟩ := h
  refine ⟨?_, by rw [skipP, h1, h3]; rfl⟩
  intro e
  have : p.any badB = true := List.any_eq_true.2 ⟨47, e, rfl⟩
  rw [h5] at this; cases this
theorem pc_up : Pc [46, 46] := ⟨by decide, by decide⟩
theorem ok_len {p : List UInt8} (h : okP p = true) : 1 ≤ p.length ∧ p.length ≤ 255 := by
  rw [okP_of] at h
  simp only [Bool.and_eq_true, Bool.not_eq_true', decide_eq_true_eq] at h
  obtain ⟨⟨⟨⟨h1, h2⟩, h3⟩, h4⟩, h5⟩ := h
  refine ⟨?_, h2⟩
  cases p with
  | nil => simp at h1
  | cons _ _ => simp
theorem join_two (x y : List UInt8) (r : List (List UInt8)) : joinB (x :: y :: r) = x ++ 47 :: joinB (y :: r) := by
  unfold joinB
  rw [Lib.join_cons, Lib.join_cons]
  simp [Lib.joinTail]
theorem pieces_join : ∀ (own : List (List UInt8)), own ≠ [] → (∀ p ∈ own, (47 : UInt8) ∉ p) → ∀ t, pieces (joinB own ++ 47 :: t) = own ++ pieces t
  | [], h, _, _ => absurd rfl h
  | [x], _, h, t => by
    rw [show joinB [x] = x from Lib.join_one x [47], pieces_cut x t (h x (by simp))]; rfl
  | x :: y :: r, _, h, t => by
    rw [join_two, List.append_assoc, List.cons_append, pieces_cut x _ (h x (by simp)), pieces_join (y :: r) (by simp) (fun p hp => h p (List.mem_cons_of_mem _ hp)) t]; rfl
theorem pieces_join1 : ∀ (own : List (List UInt8)), own ≠ [] → (∀ p ∈ own, (47 : UInt8) ∉ p) → pieces (joinB own) = own
  | [], h, _ => absurd rfl h
  | [x], _, h => by rw [show joinB [x] = x from Lib.join_one x [47], pieces_whole x (h x (by simp))]
  | x :: y :: r, _, h => by
    rw [join_two, pieces_cut x _ (h x (by simp)), pieces_join1 (y :: r) (by simp) (fun p hp => h p (List.mem_cons_of_mem _ hp))]
theorem keep_all (own : List (List UInt8)) (h : ∀ p ∈ own, skipP p = false) : keepP own = own := by
  rw [keepP, List.filter_eq_self]; intro p hp; rw [h p hp]; rfl
theorem join_head (own : List (List UInt8)) (h0 : own ≠ []) (h : ∀ p ∈ own, Pc p) : joinB own ≠ [] ∧ (joinB own).head? ≠ some 47 := by
  cases own with
  | nil => exact absurd rfl h0
  | cons x r =>
    obtain ⟨h1, h2⟩ := h x (by simp)
    have hj : ∃ t, joinB (x :: r) = x ++ t := ⟨_, by unfold joinB; rw [Lib.join_cons]⟩
    obtain ⟨t, ht⟩ := hj
    rw [ht]
    cases x with
    | nil => cases h2
    | cons b l =>
      refine ⟨by simp, ?_⟩
      intro e
      simp at e
      exact h1 (by rw [e]; simp)
theorem join_len : ∀ (own : List (List UInt8)) (m : Nat), (∀ p ∈ own, p.length ≤ m) → (joinB own).length ≤ own.length * (m + 1)
  | [], m, _ => by simp [joinB, Lib.join_nil]
  | [x], m, h => by rw [show joinB [x] = x from Lib.join_one x [47]]; have := h x (by simp); simp; omega
  | x :: y :: r, m, h => by
    have ih := join_len (y :: r) m (fun p hp => h p (List.mem_cons_of_mem _ hp))
    have hx := h x (by simp)
    rw [join_two, List.length_append, List.length_cons, List.length_cons, Nat.succ_mul]
    omega

/-- What is joined is parted as it was. -/
theorem back_plain (own : List (List UInt8)) (h0 : own ≠ []) (h : own.all okP = true) (hl : (joinB own).length ≤ 4096) : partsOf (joinB own) = some own := by
  have hp : ∀ p ∈ own, Pc p := fun p hp => pc_of_ok (List.all_eq_true.1 h p hp)
  obtain ⟨j1, j2⟩ := join_head own h0 hp
  have hk : keepP (pieces (joinB own)) = own := by rw [pieces_join1 own h0 (fun p q => (hp p q).1), keep_all own (fun p q => (hp p q).2)]
  have := parts_some (l := joinB own) (by rintro (e | e | e); exact j1 e; omega; exact j2 e) (by rw [hk]; exact h)
  rw [hk] at this
  exact this
theorem back_points (own : List (List UInt8)) (h0 : own ≠ []) (h : own.all okP = true) (hl : (joinB own).length ≤ 4090) : partsOf (46 :: 47 :: (joinB own ++ [47, 47, 46])) = some own := by
  have hp : ∀ p ∈ own, Pc p := fun p hp => pc_of_ok (List.all_eq_true.1 h p hp)
  have h1 : pieces (46 :: 47 :: (joinB own ++ [47, 47, 46])) = [46] :: (own ++ [[], [46]]) := by
    have := pieces_cut [46] (joinB own ++ [47, 47, 46]) (by decide)
    rw [pieces_join own h0 (fun p q => (hp p q).1) [47, 46]] at this
    exact this
  have hk : keepP (pieces (46 :: 47 :: (joinB own ++ [47, 47, 46]))) = own := by
    rw [h1, keepP, List.filter_cons_of_neg (by decide), List.filter_append]
    have := keep_all own (fun p q => (hp p q).2)
    rw [keepP] at this
    rw [this]
    simp [skipP]
  have := parts_some (l := 46 :: 47 :: (joinB own ++ [47, 47, 46])) (by rintro (e | e | e); cases e; simp at e; omega; simp at e) (by rw [hk]; exact h)
  rw [hk] at this
  exact this
theorem back_up (up : List (List UInt8)) (h : ∀ p ∈ up, Pc p) (hu : [46, 46] ∈ up) : partsOf (joinB up) = none := by
  have h0 : up ≠ [] := by rintro rfl; cases hu
  refine parts_none ?_
  rw [pieces_join1 up h0 (fun p q => (h p q).1), keep_all up (fun p q => (h p q).2), List.all_eq_false]
  exact ⟨_, hu, by decide +kernel⟩
theorem back_root (l : List UInt8) : partsOf (47 :: l) = none := by
  unfold partsOf
  rw [if_pos (.inr (.inr rfl))]
