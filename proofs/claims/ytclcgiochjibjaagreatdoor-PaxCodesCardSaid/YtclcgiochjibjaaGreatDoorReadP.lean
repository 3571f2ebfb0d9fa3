/-
  On paper: how the document reads a record. No Go in sight.
-/
import Derived.Test.YtclcgiochjibjaaGreatDoorPaxP
namespace Go.Proofs.YtclcgiochjibjaaGreatDoor
open Go.Lib
set_option linter.unusedVariables false

/-- A row of bytes begins with this record. -/
def RecAt (rest : List UInt8) (r : KVb) (t : List UInt8) : Prop := rest = recB r ++ t ∧ okR r = true ∧ (recB r).length ≤ 65536
theorem good_no {l : List UInt8} {pre : List KVb} {rest : List UInt8} (he : l = recsB pre ++ rest) (ho : ∀ r ∈ pre, okR r = true) (hl : l.length ≤ 65536) (hne : rest ≠ []) (hno : ∀ r t, ¬ RecAt rest r t) : ∀ rs, ¬ Good l rs := by
  intro rs h
  subst he
  obtain ⟨q, rfl, hg⟩ := h.split ho hl
  rw [List.length_append] at hl
  obtain ⟨r, q2, rfl, h1, _, h3, _⟩ := hg.next hne (by omega)
  obtain ⟨e1, e2, _⟩ := cutS_take h1
  exact hno r _ ⟨e1, h3, by omega⟩
/-- What a record's bytes are. -/
theorem rec_facts {rest : List UInt8} {r : KVb} {t : List UInt8} (h : RecAt rest r t) :
    ∃ D : List UInt8, rest = D ++ 32 :: (r.1 ++ 61 :: (r.2 ++ 10 :: t)) ∧ D.length ≤ 5 ∧ (∀ x ∈ D, x ≠ 32) ∧ numL D = ((recL r : Int), true) ∧ recL r = D.length + r.1.length + r.2.length + 3 ∧ (∀ x ∈ r.1, x ≠ 61) ∧ (recB r).length = recL r := by
  obtain ⟨h1, h2, h3⟩ := h
  have hlo := recB_lo r
  have hn := recB_len r (by omega)
  have hrl := restB_len r
  refine ⟨decDigits (recL r), ?_, decDigits_len 5 _ (by decide) (by omega), dig_no32 _, ?_, ?_, ?_, hn⟩
  · rw [h1, recB, restB]; simp
  · rw [← itoa_nonneg]; exact numL_yes _ (by omega) (by omega)
  · have := hn
    rw [recB, List.length_append] at this
    omega
  · intro x hx e
    subst e
    have : r.1.any badK = true := List.any_eq_true.2 ⟨_, hx, rfl⟩
    simp [okR, this] at h2
/-- The first place of a byte. -/
theorem first_place (c : UInt8) (D t : List UInt8) (hD : ∀ x ∈ D, x ≠ c) (k : Nat) (h : ∀ j, j < k → (D ++ c :: t).getD j 0 ≠ c) : k ≤ D.length := by
  by_cases hk : k ≤ D.length
  · exact hk
  · have := h D.length (by omega)
    simp [List.getD] at this
theorem first_is (c : UInt8) (D t : List UInt8) (hD : ∀ x ∈ D, x ≠ c) (k : Nat) (h : ∀ j, j < k → (D ++ c :: t).getD j 0 ≠ c) (hc : (D ++ c :: t).getD k 0 = c) (hk : k < (D ++ c :: t).length) : k = D.length := by
  have h1 := first_place c D t hD k h
  by_cases hk2 : k = D.length
  · exact hk2
  · have hlt : k < D.length := by omega
    have : (D ++ c :: t).getD k 0 = D[k] := by simp [List.getD, List.getElem?_append_left hlt, hlt]
    rw [this] at hc
    exact absurd hc (hD _ (List.getElem_mem hlt))
/-- No space where one must be. -/
theorem no_space {rest : List UInt8} (k : Nat) (h : ∀ j, j < k → rest.getD j 0 ≠ 32) (hx : k = rest.length ∨ (k = 6 ∧ rest.getD k 0 ≠ 32)) : ∀ r t, ¬ RecAt rest r t := by
  intro r t hr
  obtain ⟨D, h1, h2, h3, _⟩ := rec_facts hr
  rw [h1] at h hx
  have := first_place 32 D _ h3 k h
  rcases hx with e | ⟨e, _⟩
  · rw [List.length_append, List.length_cons] at e; omega
  · omega
/-- What the space's place tells. -/
theorem at_space {rest : List UInt8} (k : Nat) (h : ∀ j, j < k → rest.getD j 0 ≠ 32) (hk : k < rest.length) (h32 : rest.getD k 0 = 32) {r : KVb} {t : List UInt8} (hr : RecAt rest r t) :
    numL (rest.take k) = ((recL r : Int), true) ∧ recL r ≤ rest.length ∧ 1 ≤ recL r ∧ rest.getD (recL r - 1) 0 = 10 ∧ k + 1 ≤ recL r - 1 ∧ (rest.drop (k + 1)).take (recL r - 1 - (k + 1)) = r.1 ++ 61 :: r.2 ∧ rest.take (recL r) = recB r ∧ (∀ x ∈ r.1, x ≠ 61) := by
  have hrec := hr.1
  obtain ⟨D, h1, h2, h3, h4, h5, h6, h7⟩ := rec_facts hr
  have hkD : k = D.length := by
    rw [h1] at h h32 hk
    exact first_is 32 D _ h3 k h h32 hk
  subst hkD
  have hlen : rest.length = D.length + r.1.length + r.2.length + 3 + t.length := by rw [h1]; simp; omega
  refine ⟨?_, by omega, by omega, ?_, by omega, ?_, ?_, h6⟩
  · rw [h1, List.take_left]; exact h4
  · rw [h5]
    have e : D ++ 32 :: (r.1 ++ 61 :: (r.2 ++ 10 :: t)) = (D ++ 32 :: (r.1 ++ 61 :: r.2)) ++ 10 :: t := by simp
    rw [h1, e]
    have hl : (D ++ 32 :: (r.1 ++ 61 :: r.2)).length = D.length + r.1.length + r.2.length + 3 - 1 := by simp; omega
    rw [List.getD, List.getElem?_append_right (by omega), hl, Nat.sub_self]
    rfl
  · have e : rest.drop (D.length + 1) = (r.1 ++ 61 :: r.2) ++ 10 :: t := by
      rw [h1, List.drop_append, List.drop_of_length_le (by omega), show D.length + 1 - D.length = 1 by omega]
      simp
    rw [e, show recL r - 1 - (D.length + 1) = (r.1 ++ 61 :: r.2).length by simp; omega, List.take_left]
  · rw [hrec, ← h7, List.take_left]
theorem no_eq {k : List UInt8} {v : List UInt8} (e : Nat) (h : ∀ j, j < e → (k ++ 61 :: v).getD j 0 ≠ 61) (hk : ∀ x ∈ k, x ≠ 61) : e ≠ (k ++ 61 :: v).length := by
  have := first_place 61 k v hk e h
  rw [List.length_append, List.length_cons]; omega
theorem at_eq {k : List UInt8} {v : List UInt8} (e : Nat) (h : ∀ j, j < e → (k ++ 61 :: v).getD j 0 ≠ 61) (hk : ∀ x ∈ k, x ≠ 61) (he : e < (k ++ 61 :: v).length) (h61 : (k ++ 61 :: v).getD e 0 = 61) : (k ++ 61 :: v).take e = k ∧ (k ++ 61 :: v).drop (e + 1) = v := by
  have := first_is 61 k v hk e h h61 he
  subst this
  refine ⟨List.take_left, ?_⟩
  rw [List.drop_append, List.drop_of_length_le (by omega), show k.length + 1 - k.length = 1 by omega]
  simp
theorem read_no1 {rest : List UInt8} (k : Nat) (h : ∀ j, j < k → rest.getD j 0 ≠ 32) (hk : k < rest.length) (h32 : rest.getD k 0 = 32) (hn : (numL (rest.take k)).2 = false) : ∀ r t, ¬ RecAt rest r t := by
  intro r t hr
  rw [(at_space k h hk h32 hr).1] at hn
  cases hn
theorem read_no2 {rest : List UInt8} (k : Nat) (h : ∀ j, j < k → rest.getD j 0 ≠ 32) (hk : k < rest.length) (h32 : rest.getD k 0 = 32) (N : Int) (hn : numL (rest.take k) = (N, true))
    (hbad : N < 1 ∨ (rest.length : Int) < N ∨ rest.getD (N.toNat - 1) 0 ≠ 10 ∨ N - 1 < (k : Int) + 1) : ∀ r t, ¬ RecAt rest r t := by
  intro r t hr
  obtain ⟨h1, h2, h3, h4, h5, _⟩ := at_space k h hk h32 hr
  rw [hn] at h1
  have hN : N = (recL r : Int) := congrArg Prod.fst h1
  subst hN
  rw [Int.toNat_natCast] at hbad
  rcases hbad with x | x | x | x
  · omega
  · omega
  · exact x h4
  · omega
theorem read_is {rest : List UInt8} (k : Nat) (h : ∀ j, j < k → rest.getD j 0 ≠ 32) (hk : k < rest.length) (h32 : rest.getD k 0 = 32) (q : Nat) (hn : numL (rest.take k) = ((q : Int), true)) {r : KVb} {t : List UInt8} (hr : RecAt rest r t) :
    (rest.drop (k + 1)).take (q - 1 - (k + 1)) = r.1 ++ 61 :: r.2 ∧ rest.take q = recB r ∧ (∀ x ∈ r.1, x ≠ 61) ∧ okR r = true := by
  obtain ⟨h1, _, _, _, _, h6, h7, h8⟩ := at_space k h hk h32 hr
  rw [hn] at h1
  have hN : (q : Int) = (recL r : Int) := congrArg Prod.fst h1
  have hq : q = recL r := by omega
  subst hq
  exact ⟨h6, h7, h8, hr.2.1⟩
/-- No equals sign. -/
theorem read_no3 {rest : List UInt8} (k : Nat) (h : ∀ j, j < k → rest.getD j 0 ≠ 32) (hk : k < rest.length) (h32 : rest.getD k 0 = 32) (q : Nat) (hn : numL (rest.take k) = ((q : Int), true)) (sl : List UInt8) (hsl : sl = (rest.drop (k + 1)).take (q - 1 - (k + 1)))
    (he : ∀ j, j < sl.length → sl.getD j 0 ≠ 61) : ∀ r t, ¬ RecAt rest r t := by
  intro r t hr
  obtain ⟨h1, _, h3, _⟩ := read_is k h hk h32 q hn hr
  rw [← hsl] at h1
  rw [h1] at he
  exact no_eq _ he h3 rfl
/-- The key and the value are not told so. -/
theorem read_no4 {rest : List UInt8} (k : Nat) (h : ∀ j, j < k → rest.getD j 0 ≠ 32) (hk : k < rest.length) (h32 : rest.getD k 0 = 32) (q : Nat) (hn : numL (rest.take k) = ((q : Int), true)) (sl : List UInt8) (hsl : sl = (rest.drop (k + 1)).take (q - 1 - (k + 1)))
    (e : Nat) (he : ∀ j, j < e → sl.getD j 0 ≠ 61) (hel : e < sl.length) (h61 : sl.getD e 0 = 61) (x : KVb) (hx : x = (sl.take e, sl.drop (e + 1))) (hbad : okR x = false ∨ recB x ≠ rest.take q) : ∀ r t, ¬ RecAt rest r t := by
  intro r t hr
  obtain ⟨h1, h2, h3, h4⟩ := read_is k h hk h32 q hn hr
  rw [← hsl] at h1
  rw [h1] at he hel h61 hx
  obtain ⟨e1, e2⟩ := at_eq e he h3 hel h61
  rw [e1, e2] at hx
  have : x = r := by rw [hx]
  subst this
  rcases hbad with b | b
  · rw [h4] at b; cases b
  · exact b h2.symm
end Go.Proofs.YtclcgiochjibjaaGreatDoor
