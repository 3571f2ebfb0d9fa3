/-
  The rows of huff.addLengths.
-/
import Derived.Test.YtokdlmpnokmniaaHuffM
namespace Go.Proofs.Ytokdlmpnokmniaa
open Go.RowKit
set_option linter.unusedVariables false
set_option linter.unusedSimpArgs false

/-- The i-th row. -/
def rowS (ls : List Int) : Nat → List (Int × Bool)
  | 0 => mergeS [] ls
  | i + 1 => mergeS (rowS ls i) ls
theorem rowS_len0 (ls : List Int) : (rowS ls 0).length = ls.length := by simp [rowS, mergeS_len]
theorem rowS_lenS (ls : List Int) (i : Nat) : (rowS ls (i + 1)).length = ls.length + (rowS ls i).length / 2 := by simp [rowS, mergeS_len]
theorem rowS_le (ls : List Int) : ∀ i, (rowS ls i).length ≤ 2 * ls.length
  | 0 => by rw [rowS_len0]; omega
  | i + 1 => by rw [rowS_lenS]; have := rowS_le ls i; omega
/-- Halves, rounded up. -/
def halves (n : Nat) : Nat → Nat
  | 0 => n
  | i + 1 => (halves n i + 1) / 2
theorem halves_le (n : Nat) : ∀ i k, n ≤ k * 2 ^ i → halves n i ≤ k
  | 0, k, h => by simpa [halves] using h
  | i + 1, k, h => by
    have := halves_le n i (2 * k) (by rw [Nat.pow_succ] at h; rw [Nat.mul_comm 2 k, Nat.mul_assoc, Nat.mul_comm 2]; exact h)
    simp only [halves]
    omega
theorem rowS_ge (ls : List Int) : ∀ i, 2 * ls.length ≤ (rowS ls i).length + halves ls.length i
  | 0 => by rw [rowS_len0]; simp [halves]; omega
  | i + 1 => by rw [rowS_lenS]; have := rowS_ge ls i; simp only [halves]; omega
theorem rowS_room (ls : List Int) (l : Nat) (hl : 1 ≤ l) (h : ls.length ≤ 2 ^ l) : 2 * ls.length - 2 ≤ (rowS ls (l - 1)).length := by
  have h1 := rowS_ge ls (l - 1)
  have h2 := halves_le ls.length (l - 1) 2 (by
    have : 2 * 2 ^ (l - 1) = 2 ^ l := by
      rw [Nat.mul_comm, ← Nat.pow_succ]; congr 1; omega
    omega)
  omega

/-- How many are packed, how many are leaves. -/
def packedN (rs : List (Int × Bool)) : Nat := rs.countP (fun p => p.2)
def leafN (rs : List (Int × Bool)) : Nat := rs.countP (fun p => !p.2)
theorem packed_leaf (rs : List (Int × Bool)) : packedN rs + leafN rs = rs.length := by
  induction rs with
  | nil => rfl
  | cons p r ih =>
    unfold packedN leafN at ih ⊢
    simp only [List.countP_cons, List.length_cons]
    cases p.2 <;> simp <;> omega
theorem leaf_map (ls : List Int) : leafN (ls.map fun z => (z, false)) = ls.length := by
  induction ls with
  | nil => rfl
  | cons z r ih => unfold leafN at ih ⊢; simp only [List.map_cons, List.countP_cons, List.length_cons, ih]; simp
theorem leaf_mergeW (w : Int) (f : List Int → List (Int × Bool)) (hf : ∀ l, leafN (f l) = l.length) : ∀ l, leafN (mergeW w f l) = l.length
  | [] => by have := hf []; unfold leafN at this ⊢; simp only [mergeW, List.countP_cons, this]; simp
  | z :: r => by
    unfold mergeW
    split
    · have := leaf_mergeW w f hf r; unfold leafN at this ⊢; simp only [List.countP_cons, List.length_cons, this]; simp
    · have := hf (z :: r); unfold leafN at this ⊢; simp only [List.countP_cons, this]; simp
theorem leaf_mergeS : ∀ (ah : List (Int × Bool)) (l : List Int), leafN (mergeS ah l) = l.length
  | [], l => by simpa [mergeS] using leaf_map l
  | [a], l => by simpa [mergeS] using leaf_map l
  | a :: b :: r, l => by simp only [mergeS]; exact leaf_mergeW _ _ (leaf_mergeS r) l
theorem leaf_take (rs : List (Int × Bool)) (k : Nat) : leafN (rs.take k) ≤ leafN rs := by
  have : rs = rs.take k ++ rs.drop k := (List.take_append_drop k rs).symm
  unfold leafN
  conv => rhs; rw [this, List.countP_append]
  omega
theorem packed_take (rs : List (Int × Bool)) (k : Nat) : packedN (rs.take k) ≤ packedN rs := by
  have : rs = rs.take k ++ rs.drop k := (List.take_append_drop k rs).symm
  unfold packedN
  conv => rhs; rw [this, List.countP_append]
  omega
theorem packed_mergeS (ah : List (Int × Bool)) (l : List Int) : packedN (mergeS ah l) = ah.length / 2 := by
  have h1 := packed_leaf (mergeS ah l)
  rw [leaf_mergeS, mergeS_len] at h1
  omega
theorem leafs_row (ls : List Int) (i : Nat) : leafN (rowS ls i) = ls.length := by cases i <;> exact leaf_mergeS _ _
/-- What is chosen of row i leaves room ahead. -/
theorem chosen_ok (ls : List Int) (i k : Nat) (hk : k ≤ (rowS ls i).length) :
    k - packedN ((rowS ls i).take k) ≤ ls.length ∧ packedN ((rowS ls i).take k) ≤ k ∧ (i = 0 → packedN ((rowS ls i).take k) = 0) ∧ (∀ j, i = j + 1 → 2 * packedN ((rowS ls i).take k) ≤ (rowS ls j).length) := by
  have h1 := packed_leaf ((rowS ls i).take k)
  rw [List.length_take, Nat.min_eq_left hk] at h1
  have h2 := leaf_take (rowS ls i) k
  rw [leafs_row] at h2
  have h3 := packed_take (rowS ls i) k
  refine ⟨by omega, by omega, ?_, ?_⟩
  · rintro rfl
    have : packedN (rowS ls 0) = 0 := by unfold rowS; rw [packed_mergeS]; rfl
    omega
  · rintro j rfl
    have : packedN (rowS ls (j + 1)) = (rowS ls j).length / 2 := by unfold rowS; rw [packed_mergeS]; cases j <;> rfl
    omega

theorem small_mergeW {m : Int} (w : Int) (hw : 0 ≤ w ∧ w ≤ m) (hm : 1048576 ≤ m) (f : List Int → List (Int × Bool)) (hf : ∀ l, (∀ z ∈ l, 0 ≤ z ∧ z ≤ 1048576) → SmallIt m (f l)) : ∀ l, (∀ z ∈ l, 0 ≤ z ∧ z ≤ 1048576) → SmallIt m (mergeW w f l)
  | [], h => by
    intro p hp
    rcases List.mem_cons.1 hp with rfl | hp
    · exact hw
    · exact hf [] h p hp
  | z :: r, h => by
    unfold mergeW
    have hz := h z List.mem_cons_self
    have hr : ∀ z ∈ r, 0 ≤ z ∧ z ≤ 1048576 := fun y hy => h y (List.mem_cons_of_mem _ hy)
    split
    · intro p hp
      rcases List.mem_cons.1 hp with rfl | hp
      · exact ⟨hz.1, by omega⟩
      · exact small_mergeW w hw hm f hf r hr p hp
    · intro p hp
      rcases List.mem_cons.1 hp with rfl | hp
      · exact hw
      · exact hf _ h p hp
theorem small_mergeS {m : Int} (hm : 1048576 ≤ 2 * m) : ∀ (ah : List (Int × Bool)) (l : List Int), SmallIt m ah → (∀ z ∈ l, 0 ≤ z ∧ z ≤ 1048576) → SmallIt (2 * m) (mergeS ah l)
  | [], l, _, hl => by
    intro p hp
    obtain ⟨z, hz, rfl⟩ := List.mem_map.1 (show p ∈ l.map fun z => (z, false) by simpa [mergeS] using hp)
    have := hl z hz
    exact ⟨this.1, by omega⟩
  | [a], l, _, hl => by
    intro p hp
    obtain ⟨z, hz, rfl⟩ := List.mem_map.1 (show p ∈ l.map fun z => (z, false) by simpa [mergeS] using hp)
    have := hl z hz
    exact ⟨this.1, by omega⟩
  | a :: b :: r, l, ha, hl => by
    have h1 := ha a List.mem_cons_self
    have h2 := ha b (List.mem_cons_of_mem _ List.mem_cons_self)
    simp only [mergeS]
    exact small_mergeW _ ⟨by omega, by omega⟩ hm _ (fun l' hl' => small_mergeS hm r l' (fun p hp => ha p (List.mem_cons_of_mem _ (List.mem_cons_of_mem _ hp))) hl') l hl
theorem small_row (ls : List Int) (hl : ∀ z ∈ ls, 0 ≤ z ∧ z ≤ 1048576) : ∀ i, SmallIt (1048576 * 2 ^ i) (rowS ls i)
  | 0 => by
    intro p hp
    obtain ⟨z, hz, rfl⟩ := List.mem_map.1 (show p ∈ ls.map fun z => (z, false) from hp)
    have := hl z hz
    exact ⟨this.1, by show z ≤ 1048576 * 2 ^ 0; rw [Int.pow_zero]; omega⟩
  | i + 1 => by
    have h := small_row ls hl i
    have h1 : (1 : Int) ≤ 2 ^ i := by
      have : 1 ≤ 2 ^ i := Nat.one_le_two_pow
      have h2 : ((1 : Nat) : Int) ≤ ((2 ^ i : Nat) : Int) := Int.ofNat_le.2 this
      rwa [Int.natCast_pow] at h2
    have := small_mergeS (m := 1048576 * 2 ^ i) (by omega) (rowS ls i) ls h hl
    unfold rowS
    rw [Int.pow_succ, show (1048576 : Int) * (2 ^ i * 2) = 2 * (1048576 * 2 ^ i) by omega]
    exact this
theorem small_row50 (ls : List Int) (hl : ∀ z ∈ ls, 0 ≤ z ∧ z ≤ 1048576) (i : Nat) (hi : i ≤ 30) : SmallIt 1125899906842624 (rowS ls i) := by
  intro p hp
  have h := small_row ls hl i p hp
  have h2 : 2 ^ i ≤ 2 ^ 30 := Nat.pow_le_pow_right (by decide) hi
  have h3 : (2 : Int) ^ i ≤ 1073741824 := by
    have h4 : ((2 ^ i : Nat) : Int) ≤ ((1073741824 : Nat) : Int) := Int.ofNat_le.2 h2
    rwa [Int.natCast_pow] at h4
  exact ⟨h.1, by omega⟩

/-- One more at each place. -/
def bump (zs : List Int) (ps : List Nat) : List Int := ps.foldl (fun z p => z.set p (z.getD p 0 + 1)) zs
theorem bump_len (ps : List Nat) : ∀ zs, (bump zs ps).length = zs.length := by
  induction ps with
  | nil => intro zs; rfl
  | cons p r ih => intro zs; simp only [bump, List.foldl_cons] at ih ⊢; rw [ih]; simp
theorem bump_snoc (zs : List Int) (ps : List Nat) (p : Nat) : bump zs (ps ++ [p]) = (bump zs ps).set p ((bump zs ps).getD p 0 + 1) := by simp [bump, List.foldl_append]
/-- From row i - 1 on to the first. -/
def addL (ls : List Int) (ps : List Nat) : Nat → Nat → List Int → List Int
  | 0, _, zs => zs
  | i + 1, k, zs => addL ls ps i (2 * packedN ((rowS ls i).take k)) (bump zs (ps.take (k - packedN ((rowS ls i).take k))))
end Go.Proofs.Ytokdlmpnokmniaa
