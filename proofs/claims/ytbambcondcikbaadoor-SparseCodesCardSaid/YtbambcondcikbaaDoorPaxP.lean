/-
  Records of pax on paper: a record's bytes, which records a row of bytes is. No Go in sight.
-/
import Derived.Test.YtbambcondcikbaaDoorDigN
namespace Go.Proofs.YtbambcondcikbaaDoor
open Go.Lib
set_option linter.unusedVariables false

theorem decDigits_lo : ∀ (k u : Nat), 10 ^ k ≤ u → k + 1 ≤ (decDigits u).length := by
  intro k
  induction k with
  | zero =>
    intro u _
    have := decDigits_ne u
    cases hd : decDigits u with
    | nil => exact absurd hd this
    | cons _ _ => simp
  | succ k ih =>
    intro u hu
    rw [Nat.pow_succ] at hu
    have hp : 0 < 10 ^ k := Nat.pow_pos (by decide)
    rw [decDigits_ge (by omega), List.length_append]
    have := ih (u / 10) (by omega)
    simp; omega
theorem dec_len (k u : Nat) (h1 : 10 ^ k ≤ u) (h2 : u < 10 ^ (k + 1)) : (decDigits u).length = k + 1 := by
  have a := decDigits_lo k u h1
  have b := decDigits_len (k + 1) u (by omega) h2
  omega
theorem dec_len1 (u : Nat) (h2 : u < 10) : (decDigits u).length = 1 := by rw [decDigits_lt h2]; rfl

/-- How many digits a record's length has, that has so many bytes behind them. -/
def recD (L : Nat) : Nat := if L ≤ 8 then 1 else if L ≤ 97 then 2 else if L ≤ 996 then 3 else if L ≤ 9995 then 4 else if L ≤ 99994 then 5 else 6
theorem recD_le (L : Nat) : 1 ≤ recD L ∧ recD L ≤ 6 := by
  unfold recD
  refine ⟨?_, ?_⟩ <;> (repeat' split) <;> omega
theorem recD_is {L : Nat} (hL : L ≤ 900000) : (decDigits (recD L + L)).length = recD L := by
  unfold recD
  split
  · exact dec_len1 _ (by omega)
  · split
    · exact dec_len 1 _ (by omega) (by omega)
    · split
      · exact dec_len 2 _ (by omega) (by omega)
      · split
        · exact dec_len 3 _ (by omega) (by omega)
        · split
          · exact dec_len 4 _ (by omega) (by omega)
          · exact dec_len 5 _ (by omega) (by omega)
theorem recD_least {L d : Nat} (h1 : 1 ≤ d) (h2 : d < recD L) : (decDigits (d + L)).length ≠ d := by
  have hlo : ∀ k, d = k + 1 → 10 ^ (k + 1) ≤ d + L → (decDigits (d + L)).length ≠ d := fun k hk hp => by
    have := decDigits_lo (k + 1) (d + L) hp
    omega
  unfold recD at h2
  split at h2
  · omega
  · rename_i a1
    split at h2
    · have : d = 1 := by omega
      exact hlo 0 this (by omega)
    · rename_i a2
      split at h2
      · rcases (show d = 1 ∨ d = 2 by omega) with h | h
        · exact hlo 0 h (by omega)
        · exact hlo 1 h (by omega)
      · rename_i a3
        split at h2
        · rcases (show d = 1 ∨ d = 2 ∨ d = 3 by omega) with h | h | h
          · exact hlo 0 h (by omega)
          · exact hlo 1 h (by omega)
          · exact hlo 2 h (by omega)
        · rename_i a4
          split at h2
          · rcases (show d = 1 ∨ d = 2 ∨ d = 3 ∨ d = 4 by omega) with h | h | h | h
            · exact hlo 0 h (by omega)
            · exact hlo 1 h (by omega)
            · exact hlo 2 h (by omega)
            · exact hlo 3 h (by omega)
          · rename_i a5
            rcases (show d = 1 ∨ d = 2 ∨ d = 3 ∨ d = 4 ∨ d = 5 by omega) with h | h | h | h | h
            · exact hlo 0 h (by omega)
            · exact hlo 1 h (by omega)
            · exact hlo 2 h (by omega)
            · exact hlo 3 h (by omega)
            · exact hlo 4 h (by omega)

abbrev KVb := List UInt8 × List UInt8
def restB (r : KVb) : List UInt8 := 32 :: (r.1 ++ 61 :: (r.2 ++ [10]))
theorem restB_len (r : KVb) : (restB r).length = r.1.length + r.2.length + 3 := by simp [restB]; omega
def recL (r : KVb) : Nat := recD (restB r).length + (restB r).length
/-- A record's bytes. -/
def recB (r : KVb) : List UInt8 := decDigits (recL r) ++ restB r
theorem recB_len (r : KVb) (h : (restB r).length ≤ 900000) : (recB r).length = recL r := by
  rw [recB, List.length_append]
  have := recD_is h
  unfold recL
  omega
theorem recB_ne (r : KVb) : recB r ≠ [] := by simp [recB, restB]
theorem recB_lo (r : KVb) : (restB r).length < (recB r).length := by
  rw [recB, List.length_append]
  have := decDigits_ne (recL r)
  cases hd : decDigits (recL r) with
  | nil => exact absurd hd this
  | cons _ _ => simp
def badK (b : UInt8) : Bool := b == 61 || b == 10 || b == 0
/-- A record that may be. -/
def okR (r : KVb) : Bool := !r.1.isEmpty && !r.1.any badK && !r.2.any (· == 0)
def recsB (rs : List KVb) : List UInt8 := rs.flatMap recB
theorem recsB_cons (r : KVb) (rs : List KVb) : recsB (r :: rs) = recB r ++ recsB rs := by simp [recsB]
theorem recsB_snoc (rs : List KVb) (r : KVb) : recsB (rs ++ [r]) = recsB rs ++ recB r := by simp [recsB]

/-- Cut at the first byte c. -/
def cutP (c : UInt8) : List UInt8 → List UInt8 × List UInt8 × Bool
  | [] => ([], [], false)
  | b :: t => if b = c then ([], t, true) else (b :: (cutP c t).1, (cutP c t).2.1, (cutP c t).2.2)
theorem cutP_at (c : UInt8) (b : List UInt8) : ∀ a : List UInt8, (∀ x ∈ a, x ≠ c) → cutP c (a ++ c :: b) = (a, b, true)
  | [], _ => by simp [cutP]
  | x :: a, h => by
    have ih := cutP_at c b a (fun y hy => h y (List.mem_cons_of_mem _ hy))
    have hx : x ≠ c := h x List.mem_cons_self
    show cutP c (x :: (a ++ c :: b)) = _
    rw [cutP, if_neg hx, ih]
theorem cutP_no (c : UInt8) : ∀ a : List UInt8, (∀ x ∈ a, x ≠ c) → cutP c a = (a, [], false)
  | [], _ => rfl
  | x :: a, h => by
    have ih := cutP_no c a (fun y hy => h y (List.mem_cons_of_mem _ hy))
    have hx : x ≠ c := h x List.mem_cons_self
    rw [cutP, if_neg hx, ih]

/-- As many bytes as the number at the beginning says. -/
def cutS (l : List UInt8) : Option (List UInt8) :=
  if (cutP 32 (l.take 6)).2.2 = false then none
  else if (numL (cutP 32 (l.take 6)).1).2 = false then none
  else if (numL (cutP 32 (l.take 6)).1).1 < 1 ∨ (l.length : Int) < (numL (cutP 32 (l.take 6)).1).1 then none
  else some (l.take (numL (cutP 32 (l.take 6)).1).1.toNat)
/-- The key and the value that they tell. -/
def pairS (t : List UInt8) : KVb :=
  ((cutP 61 (cutP 32 (trimSuffix t [10])).2.1).1, (cutP 61 (cutP 32 (trimSuffix t [10])).2.1).2.1)

theorem cutS_take {l t : List UInt8} (h : cutS l = some t) : l = t ++ l.drop t.length ∧ t.length ≤ l.length ∧ 1 ≤ t.length := by
  unfold cutS at h
  split at h
  · cases h
  · split at h
    · cases h
    · split at h
      · cases h
      · rename_i hn
        cases h
        generalize (numL (cutP 32 (l.take 6)).1).1 = n at *
        refine ⟨?_, ?_, ?_⟩
        · conv => lhs; rw [← List.take_append_drop n.toNat l]
          rw [List.length_take, Nat.min_eq_left (by omega)]
        · rw [List.length_take]; omega
        · rw [List.length_take]; omega
theorem dig_no32 (u : Nat) : ∀ x ∈ decDigits u, x ≠ 32 := by
  intro x hx e
  have := decDigits_all u u (Nat.le_refl _) x hx
  subst e
  revert this
  decide
theorem cut_yes (r : KVb) (t : List UInt8) (hl : (recB r).length ≤ 65536) : cutS (recB r ++ t) = some (recB r) := by
  have hlo := recB_lo r
  have hn := recB_len r (by omega)
  have hd : (decDigits (recL r)).length ≤ 5 := decDigits_len 5 _ (by decide) (by omega)
  have hd1 : (decDigits (recL r)).length + (restB r).length = recL r := by
    have h := hn
    rw [recB, List.length_append] at h
    exact h
  have e6 : (recB r ++ t).take 6 = decDigits (recL r) ++ 32 :: ((r.1 ++ 61 :: (r.2 ++ [10])) ++ t).take (5 - (decDigits (recL r)).length) := by
    rw [recB, restB, List.append_assoc, List.take_append, List.take_of_length_le (by omega)]
    congr 1
    rw [show 6 - (decDigits (recL r)).length = (5 - (decDigits (recL r)).length) + 1 by omega]
    rfl
  have hc : cutP 32 ((recB r ++ t).take 6) = (decDigits (recL r), ((r.1 ++ 61 :: (r.2 ++ [10])) ++ t).take (5 - (decDigits (recL r)).length), true) := by
    rw [e6]; exact cutP_at 32 _ _ (dig_no32 _)
  have hnum : numL (decDigits (recL r)) = ((recL r : Int), true) := by
    rw [← itoa_nonneg]; exact numL_yes _ (by omega) (by omega)
  unfold cutS
  rw [hc]
  simp only [hnum]
  rw [if_neg (by decide), if_neg (by decide), if_neg (by rw [List.length_append]; omega)]
  congr 1
  rw [show ((recL r : Int)).toNat = (recB r).length by omega, List.take_left]
theorem trim_last (a : List UInt8) : trimSuffix (a ++ [10]) [10] = a := by
  unfold trimSuffix
  have h : hasSuffix (a ++ [10]) [10] = true := by simp [hasSuffix]
  rw [h]
  simp
theorem pair_yes (r : KVb) (hk : okR r = true) : pairS (recB r) = r := by
  have hk61 : ∀ x ∈ r.1, x ≠ 61 := by
    intro x hx e
    subst e
    have : r.1.any badK = true := List.any_eq_true.2 ⟨_, hx, rfl⟩
    simp [okR, this] at hk
  have e : recB r = (decDigits (recL r) ++ 32 :: (r.1 ++ 61 :: r.2)) ++ [10] := by simp [recB, restB]
  unfold pairS
  rw [e, trim_last, cutP_at 32 _ _ (dig_no32 _)]
  simp only
  rw [cutP_at 61 _ _ hk61]

/-- A row of bytes is these records. -/
def Good (l : List UInt8) (rs : List KVb) : Prop := l = recsB rs ∧ ∀ r ∈ rs, okR r = true
theorem Good.cons {l : List UInt8} {r : KVb} {rs : List KVb} (h : Good l (r :: rs)) : ∃ t, l = recB r ++ t ∧ Good t rs ∧ okR r = true :=
  ⟨recsB rs, by rw [h.1, recsB_cons], ⟨rfl, fun x hx => h.2 x (List.mem_cons_of_mem _ hx)⟩, h.2 r List.mem_cons_self⟩
theorem Good.next {l : List UInt8} {rs : List KVb} (h : Good l rs) (hne : l ≠ []) (hl : l.length ≤ 65536) :
    ∃ r q, rs = r :: q ∧ cutS l = some (recB r) ∧ pairS (recB r) = r ∧ okR r = true ∧ Good (l.drop (recB r).length) q := by
  cases rs with
  | nil => exact absurd h.1 hne
  | cons r q =>
    obtain ⟨t, rfl, hg, hk⟩ := h.cons
    rw [List.length_append] at hl
    refine ⟨r, q, rfl, cut_yes r t (by omega), pair_yes r hk, hk, ?_⟩
    rw [List.drop_left]; exact hg
theorem Good.split : ∀ {pre : List KVb} {rest : List UInt8} {rs : List KVb}, Good (recsB pre ++ rest) rs → (∀ r ∈ pre, okR r = true) → (recsB pre ++ rest).length ≤ 65536 → ∃ q, rs = pre ++ q ∧ Good rest q := by
  intro pre
  induction pre with
  | nil => intro rest rs h _ _; exact ⟨rs, rfl, by simpa [recsB] using h⟩
  | cons p pre ih =>
    intro rest rs h ho hl
    rw [recsB_cons, List.append_assoc] at h hl
    obtain ⟨r, q, rfl, h1, h2, h3, h4⟩ := h.next (by simp [recB_ne]) hl
    rw [List.length_append] at hl
    have hc := cut_yes p (recsB pre ++ rest) (by omega)
    rw [hc] at h1
    have e : recB p = recB r := Option.some.inj h1
    have hp := pair_yes p (ho p List.mem_cons_self)
    rw [e, h2] at hp
    subst hp
    rw [List.drop_left] at h4
    obtain ⟨q2, rfl, hg⟩ := ih h4 (fun x hx => ho x (List.mem_cons_of_mem _ hx)) (by omega)
    exact ⟨q2, rfl, hg⟩
theorem Good.unique {l : List UInt8} {rs ps : List KVb} (h : Good l rs) (k : Good l ps) (hl : l.length ≤ 65536) : ps = rs := by
  have h1 := h.1
  have : Good (recsB rs ++ []) ps := by rw [List.append_nil, ← h1]; exact k
  obtain ⟨q, rfl, hg⟩ := this.split h.2 (by rw [List.append_nil, ← h1]; exact hl)
  cases q with
  | nil => rw [List.append_nil]
  | cons r q =>
    have := hg.1
    rw [recsB_cons] at this
    have := congrArg List.length this
    have h2 := recB_lo r
    simp at this
    omega
/-- What a row of bytes begins with, if it is no record. -/
theorem Good.none {l : List UInt8} {pre : List KVb} {rest : List UInt8} (he : l = recsB pre ++ rest) (ho : ∀ r ∈ pre, okR r = true) (hl : l.length ≤ 65536) (hne : rest ≠ [])
    (hno : ∀ t, cutS rest = some t → okR (pairS t) = true → recB (pairS t) ≠ t) : ∀ rs, ¬ Good l rs := by
  intro rs h
  subst he
  obtain ⟨q, rfl, hg⟩ := h.split ho hl
  rw [List.length_append] at hl
  obtain ⟨r, q2, rfl, h1, h2, h3, _⟩ := hg.next hne (by omega)
  exact hno _ h1 (by rw [h2]; exact h3) (by rw [h2])
theorem Good.snoc {pre : List KVb} {r : KVb} {rest : List UInt8} (hr : cutS rest = some (recB r)) : recsB pre ++ rest = recsB (pre ++ [r]) ++ rest.drop (recB r).length := by
  rw [recsB_snoc, List.append_assoc]
  congr 1
  exact (cutS_take hr).1
end Go.Proofs.YtbambcondcikbaaDoor
