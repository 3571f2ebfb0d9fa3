/-
  The rows of huff.addLengths.
  Package-merge on paper: the rows, what is chosen of them, and that nothing costs less.
-/
import Derived.Test.YtpdlkmacdmnamaaMb2
namespace Go.Proofs.Ytpdlkmacdmnamaa
open Go.RowKit
set_option linter.unusedVariables false
set_option linter.unusedSimpArgs false

/-- The i-th row. -/
def rowS (ls : List Int) : Nat → List (Int × Bool)
  | 0 => mergeS [] ls
  | i + 1 => mergeS (rowS ls i) ls
theorem rowS_len0 (ls : List Int) : (rowS ls 0).length = ls.length := by simp [rowS, mergeS_len]
theorem rowS_lenS (ls : List Int) (i : Nat) : (rowS ls (i + 1)).length = ls.length + (rowS ls i).length / 2 := by simp [rowS, mergeS_len]
theorem rowS_le (ls : List Int) : ∀ i, (rowS ls i).length ≤ 2 * ls.length
  | 0 => by rw [rowS_len0]; omega
  | i + 1 => by rw [rowS_lenS]; have := rowS_le ls i; omega
/-- Halves, rounded up. -/
def halves (n : Nat) : Nat → Nat
  | 0 => n
  | i + 1 => (halves n i + 1) / 2
theorem halves_le (n : Nat) : ∀ i k, n ≤ k * 2 ^ i → halves n i ≤ k
  | 0, k, h => by simpa [halves] using h
  | i + 1, k, h => by
    have := halves_le n i (2 * k) (by rw [Nat.pow_succ] at h; rw [Nat.mul_comm 2 k, Nat.mul_assoc, Nat.mul_comm 2]; exact h)
    simp only [halves]
    omega
theorem rowS_ge (ls : List Int) : ∀ i, 2 * ls.length ≤ (rowS ls i).length + halves ls.length i
  | 0 => by rw [rowS_len0]; simp [halves]; omega
  | i + 1 => by rw [rowS_lenS]; have := rowS_ge ls i; simp only [halves]; omega
theorem rowS_room (ls : List Int) (l : Nat) (hl : 1 ≤ l) (h : ls.length ≤ 2 ^ l) : 2 * ls.length - 2 ≤ (rowS ls (l - 1)).length := by
  have h1 := rowS_ge ls (l - 1)
  have h2 := halves_le ls.length (l - 1) 2 (by
    have : 2 * 2 ^ (l - 1) = 2 ^ l := by
      rw [Nat.mul_comm, ← Nat.pow_succ]; congr 1; omega
    omega)
  omega

/-- How many are packed, how many are leaves. -/
def packedN (rs : List (Int × Bool)) : Nat := rs.countP (fun p => p.2)
def leafN (rs : List (Int × Bool)) : Nat := rs.countP (fun p => !p.2)
theorem packed_leaf (rs : List (Int × Bool)) : packedN rs + leafN rs = rs.length := by
  induction rs with
  | nil => rfl
  | cons p r ih =>
    unfold packedN leafN at ih ⊢
    simp only [List.countP_cons, List.length_cons]
    cases p.2 <;> simp <;> omega
theorem leaf_map (ls : List Int) : leafN (ls.map fun z => (z, false)) = ls.length := by
  induction ls with
  | nil => rfl
  | cons z r ih => unfold leafN at ih ⊢; simp only [List.map_cons, List.countP_cons, List.length_cons, ih]; simp
theorem leaf_mergeW (w : Int) (f : List Int → List (Int × Bool)) (hf : ∀ l, leafN (f l) = l.length) : ∀ l, leafN (mergeW w f l) = l.length
  | [] => by have := hf []; unfold leafN at this ⊢; simp only [mergeW, List.countP_cons, this]; simp
  | z :: r => by
    unfold mergeW
    split
    · have := leaf_mergeW w f hf r; unfold leafN at this ⊢; simp only [List.countP_cons, List.length_cons, this]; simp
    · have := hf (z :: r); unfold leafN at this ⊢; simp only [List.countP_cons, this]; simp
theorem leaf_mergeS : ∀ (ah : List (Int × Bool)) (l : List Int), leafN (mergeS ah l) = l.length
  | [], l => by simpa [mergeS] using leaf_map l
  | [a], l => by simpa [mergeS] using leaf_map l
  | a :: b :: r, l => by simp only [mergeS]; exact leaf_mergeW _ _ (leaf_mergeS r) l
theorem leaf_take (rs : List (Int × Bool)) (k : Nat) : leafN (rs.take k) ≤ leafN rs := by
  have : rs = rs.take k ++ rs.drop k := (List.take_append_drop k rs).symm
  unfold leafN
  conv => rhs; rw [this, List.countP_append]
  omega
theorem packed_take (rs : List (Int × Bool)) (k : Nat) : packedN (rs.take k) ≤ packedN rs := by
  have : rs = rs.take k ++ rs.drop k := (List.take_append_drop k rs).symm
  unfold packedN
  conv => rhs; rw [this, List.countP_append]
  omega
theorem packed_mergeS (ah : List (Int × Bool)) (l : List Int) : packedN (mergeS ah l) = ah.length / 2 := by
  have h1 := packed_leaf (mergeS ah l)
  rw [leaf_mergeS, mergeS_len] at h1
  omega
theorem leafs_row (ls : List Int) (i : Nat) : leafN (rowS ls i) = ls.length := by cases i <;> exact leaf_mergeS _ _
/-- What is chosen of row i leaves room ahead. -/
theorem chosen_ok (ls : List Int) (i k : Nat) (hk : k ≤ (rowS ls i).length) :
    k - packedN ((rowS ls i).take k) ≤ ls.length ∧ packedN ((rowS ls i).take k) ≤ k ∧ (i = 0 → packedN ((rowS ls i).take k) = 0) ∧ (∀ j, i = j + 1 → 2 * packedN ((rowS ls i).take k) ≤ (rowS ls j).length) := by
  have h1 := packed_leaf ((rowS ls i).take k)
  rw [List.length_take, Nat.min_eq_left hk] at h1
  have h2 := leaf_take (rowS ls i) k
  rw [leafs_row] at h2
  have h3 := packed_take (rowS ls i) k
  refine ⟨by omega, by omega, ?_, ?_⟩
  · rintro rfl
    have : packedN (rowS ls 0) = 0 := by unfold rowS; rw [packed_mergeS]; rfl
    omega
  · rintro j rfl
    have : packedN (rowS ls (j + 1)) = (rowS ls j).length / 2 := by unfold rowS; rw [packed_mergeS]; cases j <;> rfl
    omega

theorem small_mergeW {m : Int} (w : Int) (hw : 0 ≤ w ∧ w ≤ m) (hm : 1048576 ≤ m) (f : List Int → List (Int × Bool)) (hf : ∀ l, (∀ z ∈ l, 0 ≤ z ∧ z ≤ 1048576) → SmallIt m (f l)) : ∀ l, (∀ z ∈ l, 0 ≤ z ∧ z ≤ 1048576) → SmallIt m (mergeW w f l)
  | [], h => by
    intro p hp
    rcases List.mem_cons.1 hp with rfl | hp
    · exact hw
    · exact hf [] h p hp
  | z :: r, h => by
    unfold mergeW
    have hz := h z List.mem_cons_self
    have hr : ∀ z ∈ r, 0 ≤ z ∧ z ≤ 1048576 := fun y hy => h y (List.mem_cons_of_mem _ hy)
    split
    · intro p hp
      rcases List.mem_cons.1 hp with rfl | hp
      · exact ⟨hz.1, by omega⟩
      · exact small_mergeW w hw hm f hf r hr p hp
    · intro p hp
      rcases List.mem_cons.1 hp with rfl | hp
      · exact hw
      · exact hf _ h p hp
theorem small_mergeS {m : Int} (hm : 1048576 ≤ 2 * m) : ∀ (ah : List (Int × Bool)) (l : List Int), SmallIt m ah → (∀ z ∈ l, 0 ≤ z ∧ z ≤ 1048576) → SmallIt (2 * m) (mergeS ah l)
  | [], l, _, hl => by
    intro p hp
    obtain ⟨z, hz, rfl⟩ := List.mem_map.1 (show p ∈ l.map fun z => (z, false) by simpa [mergeS] using hp)
    have := hl z hz
    exact ⟨this.1, by omega⟩
  | [a], l, _, hl => by
    intro p hp
    obtain ⟨z, hz, rfl⟩ := List.mem_map.1 (show p ∈ l.map fun z => (z, false) by simpa [mergeS] using hp)
    have := hl z hz
    exact ⟨this.1, by omega⟩
  | a :: b :: r, l, ha, hl => by
    have h1 := ha a List.mem_cons_self
    have h2 := ha b (List.mem_cons_of_mem _ List.mem_cons_self)
    simp only [mergeS]
    exact small_mergeW _ ⟨by omega, by omega⟩ hm _ (fun l' hl' => small_mergeS hm r l' (fun p hp => ha p (List.mem_cons_of_mem _ (List.mem_cons_of_mem _ hp))) hl') l hl
theorem small_row (ls : List Int) (hl : ∀ z ∈ ls, 0 ≤ z ∧ z ≤ 1048576) : ∀ i, SmallIt (1048576 * 2 ^ i) (rowS ls i)
  | 0 => by
    intro p hp
    obtain ⟨z, hz, rfl⟩ := List.mem_map.1 (show p ∈ ls.map fun z => (z, false) from hp)
    have := hl z hz
    exact ⟨this.1, by show z ≤ 1048576 * 2 ^ 0; rw [Int.pow_zero]; omega⟩
  | i + 1 => by
    have h := small_row ls hl i
    have h1 : (1 : Int) ≤ 2 ^ i := by
      have : 1 ≤ 2 ^ i := Nat.one_le_two_pow
      have h2 : ((1 : Nat) : Int) ≤ ((2 ^ i : Nat) : Int) := Int.ofNat_le.2 this
      rwa [Int.natCast_pow] at h2
    have := small_mergeS (m := 1048576 * 2 ^ i) (by omega) (rowS ls i) ls h hl
    unfold rowS
    rw [Int.pow_succ, show (1048576 : Int) * (2 ^ i * 2) = 2 * (1048576 * 2 ^ i) by omega]
    exact this
theorem small_row50 (ls : List Int) (hl : ∀ z ∈ ls, 0 ≤ z ∧ z ≤ 1048576) (i : Nat) (hi : i ≤ 30) : SmallIt 1125899906842624 (rowS ls i) := by
  intro p hp
  have h := small_row ls hl i p hp
  have h2 : 2 ^ i ≤ 2 ^ 30 := Nat.pow_le_pow_right (by decide) hi
  have h3 : (2 : Int) ^ i ≤ 1073741824 := by
    have h4 : ((2 ^ i : Nat) : Int) ≤ ((1073741824 : Nat) : Int) := Int.ofNat_le.2 h2
    rwa [Int.natCast_pow] at h4
  exact ⟨h.1, by omega⟩

/-- One more at each place. -/
def bump (zs : List Int) (ps : List Nat) : List Int := ps.foldl (fun z p => z.set p (z.getD p 0 + 1)) zs
theorem bump_len (ps : List Nat) : ∀ zs, (bump zs ps).length = zs.length := by
  induction ps with
  | nil => intro zs; rfl
  | cons p r ih => intro zs; simp only [bump, List.foldl_cons] at ih ⊢; rw [ih]; simp
theorem bump_snoc (zs : List Int) (ps : List Nat) (p : Nat) : bump zs (ps ++ [p]) = (bump zs ps).set p ((bump zs ps).getD p 0 + 1) := by simp [bump, List.foldl_append]
/-- From row i - 1 on to the first. -/
def addL (ls : List Int) (ps : List Nat) : Nat → Nat → List Int → List Int
  | 0, _, zs => zs
  | i + 1, k, zs => addL ls ps i (2 * packedN ((rowS ls i).take k)) (bump zs (ps.take (k - packedN ((rowS ls i).take k))))
end Go.Proofs.Ytpdlkmacdmnamaa

namespace Go.Proofs.Ytpdlkmacdmnamaa
open Go.RowKit
set_option linter.unusedVariables false
set_option linter.unusedSimpArgs false

abbrev It := Int × Bool
def pairsL : List It → List Int
  | a :: b :: r => (a.1 + b.1) :: pairsL r
  | _ => []
def mrg : List Int → List Int → List It
  | [], ls => ls.map fun z => (z, false)
  | w :: P, ls => mergeW w (mrg P) ls
theorem mergeS_mrg : ∀ (ah : List It) (ls : List Int), mergeS ah ls = mrg (pairsL ah) ls
  | [], ls => rfl
  | [a], ls => rfl
  | a :: b :: r, ls => by
    have e : mergeS r = mrg (pairsL r) := funext (mergeS_mrg r)
    show mergeW (a.1 + b.1) (mergeS r) ls = mergeW (a.1 + b.1) (mrg (pairsL r)) ls
    rw [e]
theorem mrg_nil_cons (z : Int) (r : List Int) : mrg [] (z :: r) = (z, false) :: mrg [] r := rfl
theorem mrg_cons_nil (w : Int) (P : List Int) : mrg (w :: P) [] = (w, true) :: mrg P [] := rfl
theorem mrg_le (w z : Int) (P r : List Int) (h : z ≤ w) : mrg (w :: P) (z :: r) = (z, false) :: mrg (w :: P) r := by
  show mergeW w (mrg P) (z :: r) = (z, false) :: mergeW w (mrg P) r
  simp [mergeW, h]
theorem mrg_gt (w z : Int) (P r : List Int) (h : ¬ z ≤ w) : mrg (w :: P) (z :: r) = (w, true) :: mrg P (z :: r) := by
  show mergeW w (mrg P) (z :: r) = (w, true) :: mrg P (z :: r)
  simp [mergeW, h]
def sumW (T : List It) : Int := (T.map (·.1)).sum
def tk (l : List Int) (k : Nat) : Int := (l.take k).sum
theorem sumW_cons (a : It) (T : List It) : sumW (a :: T) = a.1 + sumW T := by simp [sumW]
theorem tk_zero (l : List Int) : tk l 0 = 0 := by simp [tk]
theorem tk_nil (k : Nat) : tk [] k = 0 := by simp [tk]
theorem tk_cons (a : Int) (l : List Int) (k : Nat) : tk (a :: l) (k + 1) = a + tk l k := by simp [tk]
theorem leafN_cons (a : It) (T : List It) : leafN (a :: T) = leafN T + (if a.2 then 0 else 1) := by
  unfold leafN; rw [List.countP_cons]; cases a.2 <;> simp
theorem packedN_cons (a : It) (T : List It) : packedN (a :: T) = packedN T + (if a.2 then 1 else 0) := by
  unfold packedN; rw [List.countP_cons]
def Srd (l : List Int) : Prop := l.Pairwise (· ≤ ·)

/-- What is taken of a merged row is the beginning of both. -/
theorem mrg_sum : ∀ (P ls : List Int) (k : Nat), sumW ((mrg P ls).take k) = tk ls (leafN ((mrg P ls).take k)) + tk P (packedN ((mrg P ls).take k)) := by
  intro P
  induction P with
  | nil =>
    intro ls
    induction ls with
    | nil => intro k; simp [mrg, sumW, tk_nil]
    | cons z r ih =>
      intro k
      cases k with
      | zero => simp [sumW, leafN, packedN, tk_zero]
      | succ k =>
        rw [mrg_nil_cons, List.take_succ_cons, sumW_cons, leafN_cons, packedN_cons, ih k]
        simp [tk_cons, tk_nil]
  | cons w P ihP =>
    intro ls
    induction ls with
    | nil =>
      intro k
      cases k with
      | zero => simp [sumW, leafN, packedN, tk_zero]
      | succ k =>
        rw [mrg_cons_nil, List.take_succ_cons, sumW_cons, leafN_cons, packedN_cons, ihP [] k]
        simp [tk_cons, tk_nil]
    | cons z r ih =>
      intro k
      cases k with
      | zero => simp [sumW, leafN, packedN, tk_zero]
      | succ k =>
        by_cases h : z ≤ w
        · rw [mrg_le _ _ _ _ h, List.take_succ_cons, sumW_cons, leafN_cons, packedN_cons, ih k]
          simp [tk_cons]; omega
        · rw [mrg_gt _ _ _ _ h, List.take_succ_cons, sumW_cons, leafN_cons, packedN_cons, ihP (z :: r) k]
          simp [tk_cons]; omega
theorem tk_more (z : Int) : ∀ (l : List Int) (k : Nat), (∀ u ∈ l, z ≤ u) → k < l.length → z + tk l k ≤ tk l (k + 1)
  | [], k, _, h => by simp at h
  | a :: l, 0, hz, _ => by rw [tk_cons, tk_zero, tk_zero]; have := hz a List.mem_cons_self; omega
  | a :: l, k + 1, hz, h => by
    rw [tk_cons, tk_cons]
    have := tk_more z l k (fun u hu => hz u (List.mem_cons_of_mem _ hu)) (by simpa using h)
    omega
/-- No other beginnings of both sum up to less. -/
theorem mrg_least : ∀ (P ls : List Int), Srd P → Srd ls → ∀ c p, c ≤ ls.length → p ≤ P.length → sumW ((mrg P ls).take (c + p)) ≤ tk ls c + tk P p := by
  intro P
  induction P with
  | nil =>
    intro ls _ hs c p hc hp
    have hp0 : p = 0 := by simpa using hp
    subst hp0
    have h := mrg_sum [] ls (c + 0)
    rw [h, tk_nil, tk_nil, Nat.add_zero]
    have e : leafN ((mrg [] ls).take c) = c := by
      show leafN ((ls.map fun z => (z, false)).take c) = c
      rw [← List.map_take, leaf_map, List.length_take]; omega
    rw [e]; omega
  | cons w P ihP =>
    intro ls
    induction ls with
    | nil =>
      intro hP hs c p hc hp
      have hc0 : c = 0 := by simpa using hc
      subst hc0
      cases p with
      | zero => simp [sumW, tk_zero]
      | succ p =>
        have := ihP [] (List.pairwise_cons.1 hP).2 hs 0 p (by simp) (by simpa using hp)
        rw [show 0 + (p + 1) = (0 + p) + 1 by omega, mrg_cons_nil, List.take_succ_cons, sumW_cons, tk_cons]
        rw [tk_nil] at this ⊢
        simp only; omega
    | cons z r ih =>
      intro hP hs c p hc hp
      have hP2 := (List.pairwise_cons.1 hP)
      have hs2 := (List.pairwise_cons.1 hs)
      by_cases h : z ≤ w
      · cases c with
        | succ c =>
          have := ih hP hs2.2 c p (by simpa using hc) hp
          rw [show c + 1 + p = (c + p) + 1 by omega, mrg_le _ _ _ _ h, List.take_succ_cons, sumW_cons, tk_cons]
          simp only; omega
        | zero =>
          cases p with
          | zero => simp [sumW, tk_zero]
          | succ p =>
            have h1 := ih hP hs2.2 0 p (by simp) (by omega)
            have h2 := tk_more z (w :: P) p (fun u hu => by
              rcases List.mem_cons.1 hu with rfl | hu
              · exact h
              · have := hP2.1 u hu; omega) (by omega)
            rw [show 0 + (p + 1) = (0 + p) + 1 by omega, mrg_le _ _ _ _ h, List.take_succ_cons, sumW_cons]
            rw [tk_zero] at h1 ⊢
            simp only; omega
      · cases p with
        | succ p =>
          have := ihP (z :: r) hP2.2 hs c p hc (by simpa using hp)
          rw [show c + (p + 1) = (c + p) + 1 by omega, mrg_gt _ _ _ _ h, List.take_succ_cons, sumW_cons, tk_cons]
          simp only; omega
        | zero =>
          cases c with
          | zero => simp [sumW, tk_zero]
          | succ c =>
            have h1 := ihP (z :: r) hP2.2 hs c 0 (by omega) (by simp)
            have h2 := tk_more w (z :: r) c (fun u hu => by
              rcases List.mem_cons.1 hu with rfl | hu
              · omega
              · have := hs2.1 u hu; omega) (by omega)
            rw [show c + 1 + 0 = (c + 0) + 1 by omega, mrg_gt _ _ _ _ h, List.take_succ_cons, sumW_cons]
            rw [tk_zero] at h1 ⊢
            simp only [Nat.add_zero] at h1 ⊢; omega
theorem mrg_mem : ∀ (P ls : List Int) (x : It), x ∈ mrg P ls → x.1 ∈ P ∨ x.1 ∈ ls := by
  intro P
  induction P with
  | nil =>
    intro ls x hx
    obtain ⟨z, hz, rfl⟩ := List.mem_map.1 (show x ∈ ls.map fun z => (z, false) from hx)
    exact .inr hz
  | cons w P ihP =>
    intro ls
    induction ls with
    | nil =>
      intro x hx
      rw [mrg_cons_nil] at hx
      rcases List.mem_cons.1 hx with rfl | hx
      · exact .inl List.mem_cons_self
      · rcases ihP [] x hx with h | h
        · exact .inl (List.mem_cons_of_mem _ h)
        · exact .inr h
    | cons z r ih =>
      intro x hx
      by_cases h : z ≤ w
      · rw [mrg_le _ _ _ _ h] at hx
        rcases List.mem_cons.1 hx with rfl | hx
        · exact .inr List.mem_cons_self
        · rcases ih x hx with h | h
          · exact .inl h
          · exact .inr (List.mem_cons_of_mem _ h)
      · rw [mrg_gt _ _ _ _ h] at hx
        rcases List.mem_cons.1 hx with rfl | hx
        · exact .inl List.mem_cons_self
        · rcases ihP (z :: r) x hx with h | h
          · exact .inl (List.mem_cons_of_mem _ h)
          · exact .inr h
def SrdI (T : List It) : Prop := T.Pairwise (fun a b => a.1 ≤ b.1)
theorem mrg_srt : ∀ (P ls : List Int), Srd P → Srd ls → SrdI (mrg P ls) := by
  intro P
  induction P with
  | nil =>
    intro ls _ hs
    show List.Pairwise _ (ls.map fun z => (z, false))
    rw [List.pairwise_map]
    exact hs
  | cons w P ihP =>
    intro ls
    induction ls with
    | nil =>
      intro hP hs
      rw [mrg_cons_nil]
      refine List.pairwise_cons.2 ⟨fun x hx => ?_, ihP [] (List.pairwise_cons.1 hP).2 hs⟩
      rcases mrg_mem P [] x hx with h | h
      · exact (List.pairwise_cons.1 hP).1 _ h
      · cases h
    | cons z r ih =>
      intro hP hs
      by_cases h : z ≤ w
      · rw [mrg_le _ _ _ _ h]
        refine List.pairwise_cons.2 ⟨fun x hx => ?_, ih hP (List.pairwise_cons.1 hs).2⟩
        rcases mrg_mem (w :: P) r x hx with h2 | h2
        · rcases List.mem_cons.1 h2 with h3 | h3
          · simp only; omega
          · have := (List.pairwise_cons.1 hP).1 _ h3; simp only; omega
        · exact (List.pairwise_cons.1 hs).1 _ h2
      · rw [mrg_gt _ _ _ _ h]
        refine List.pairwise_cons.2 ⟨fun x hx => ?_, ihP (z :: r) (List.pairwise_cons.1 hP).2 hs⟩
        rcases mrg_mem P (z :: r) x hx with h2 | h2
        · exact (List.pairwise_cons.1 hP).1 _ h2
        · rcases List.mem_cons.1 h2 with h3 | h3
          · simp only; omega
          · have := (List.pairwise_cons.1 hs).1 _ h3; simp only; omega
theorem pairs_ge (m : Int) : ∀ (r : List It), (∀ u ∈ r, m ≤ u.1) → ∀ y ∈ pairsL r, m + m ≤ y
  | [], _, y, hy => by cases hy
  | [a], _, y, hy => by cases hy
  | a :: b :: r, h, y, hy => by
    rcases List.mem_cons.1 (show y ∈ (a.1 + b.1) :: pairsL r from hy) with rfl | hy
    · have := h a List.mem_cons_self; have := h b (List.mem_cons_of_mem _ List.mem_cons_self); omega
    · exact pairs_ge m r (fun u hu => h u (List.mem_cons_of_mem _ (List.mem_cons_of_mem _ hu))) y hy
theorem pairs_srt : ∀ (r : List It), SrdI r → Srd (pairsL r)
  | [], _ => List.Pairwise.nil
  | [a], _ => List.Pairwise.nil
  | a :: b :: r, h => by
    have h1 := List.pairwise_cons.1 h
    have h2 := List.pairwise_cons.1 h1.2
    refine List.pairwise_cons.2 ⟨fun y hy => ?_, pairs_srt r h2.2⟩
    have := pairs_ge b.1 r h2.1 y hy
    have := h1.1 b List.mem_cons_self
    omega
theorem pairs_len : ∀ (r : List It), (pairsL r).length = r.length / 2
  | [] => rfl
  | [a] => by simp [pairsL]
  | a :: b :: r => by simp only [pairsL, List.length_cons, pairs_len r]; omega
theorem pairs_sum : ∀ (r : List It) (q : Nat), 2 * q ≤ r.length → sumW (r.take (2 * q)) = tk (pairsL r) q
  | r, 0, _ => by simp [sumW, tk]
  | [], q + 1, h => by simp at h; 
  | [a], q + 1, h => by simp at h; omega
  | a :: b :: r, q + 1, h => by
    have := pairs_sum r q (by simp only [List.length_cons] at h; omega)
    rw [show 2 * (q + 1) = 2 * q + 1 + 1 by omega, List.take_succ_cons, List.take_succ_cons, sumW_cons, sumW_cons, this]
    simp only [pairsL, tk_cons]; omega
theorem row_zero (ls : List Int) : rowS ls 0 = mrg [] ls := rfl
theorem row_succ (ls : List Int) (i : Nat) : rowS ls (i + 1) = mrg (pairsL (rowS ls i)) ls := mergeS_mrg _ _
theorem row_srt (ls : List Int) (h : Srd ls) : ∀ i, SrdI (rowS ls i)
  | 0 => mrg_srt [] ls List.Pairwise.nil h
  | i + 1 => by rw [row_succ]; exact mrg_srt _ _ (pairs_srt _ (row_srt ls h i)) h

/-- How much room so many leaves of each row take up, in the unit of the first row. -/
def wN (x : Nat → Nat) : Nat → Nat
  | 0 => 0
  | i + 1 => wN x i + x i * 2 ^ i
def cN (ls : List Int) (x : Nat → Nat) : Nat → Int
  | 0 => 0
  | i + 1 => cN ls x i + tk ls (x i)
/-- Nothing that takes up as much room costs less than what is chosen. -/
theorem row_least (ls : List Int) (hs : Srd ls) : ∀ (i k : Nat) (x : Nat → Nat), (∀ r, r ≤ i → x r ≤ ls.length) → wN x (i + 1) = k * 2 ^ i → k ≤ (rowS ls i).length ∧ sumW ((rowS ls i).take k) ≤ cN ls x (i + 1)
  | 0, k, x, hx, hw => by
    have e : x 0 = k := by simpa [wN] using hw
    have h0 := hx 0 (Nat.le_refl 0)
    refine ⟨by rw [rowS_len0]; omega, ?_⟩
    have := mrg_least [] ls List.Pairwise.nil hs k 0 (by omega) (by simp)
    rw [row_zero]
    simp only [cN, tk_nil, Nat.add_zero, e] at this ⊢
    omega
  | i + 1, k, x, hx, hw => by
    have hw2 : wN x (i + 1) + x (i + 1) * 2 ^ (i + 1) = k * 2 ^ (i + 1) := hw
    have hle : x (i + 1) ≤ k := by
      have h1 : x (i + 1) * 2 ^ (i + 1) ≤ k * 2 ^ (i + 1) := by omega
      exact Nat.le_of_mul_le_mul_right h1 (Nat.two_pow_pos _)
    obtain ⟨q, hq⟩ : ∃ q, k = x (i + 1) + q := ⟨k - x (i + 1), by omega⟩
    have hw3 : wN x (i + 1) = (2 * q) * 2 ^ i := by
      rw [hq, Nat.add_mul, Nat.pow_succ] at hw2
      have : 2 * q * 2 ^ i = q * (2 ^ i * 2) := by rw [Nat.mul_comm 2 q, Nat.mul_assoc, Nat.mul_comm 2]
      rw [this]; omega
    obtain ⟨h1, h2⟩ := row_least ls hs i (2 * q) x (fun r hr => hx r (by omega)) hw3
    have hxi := hx (i + 1) (Nat.le_refl _)
    refine ⟨by rw [rowS_lenS]; omega, ?_⟩
    rw [row_succ, hq]
    have h3 := mrg_least (pairsL (rowS ls i)) ls (pairs_srt _ (row_srt ls hs i)) hs (x (i + 1)) q hxi (by rw [pairs_len]; omega)
    rw [← pairs_sum _ _ h1] at h3
    show _ ≤ cN ls x (i + 1) + tk ls (x (i + 1))
    omega
end Go.Proofs.Ytpdlkmacdmnamaa
