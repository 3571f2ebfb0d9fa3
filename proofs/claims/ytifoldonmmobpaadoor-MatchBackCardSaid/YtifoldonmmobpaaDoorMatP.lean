/-
  What was there before, on paper: the longest row, the nearest of them; chains. No Go in sight.
-/
import Derived.Test.YtifoldonmmobpaaDoorBase
import Derived.Lib.Endian
import Derived.Lib.TrailingZeros
namespace Go.Proofs.YtifoldonmmobpaaDoor
open Go.Lib
set_option linter.unusedVariables false

/-- How many bytes are alike from two places on, at most so many. -/
def shr (L : List UInt8) (p a : Nat) : Nat → Nat
  | 0 => 0
  | m + 1 => if L.getD p 0 = L.getD a 0 then shr L (p + 1) (a + 1) m + 1 else 0
theorem shr_le (L : List UInt8) : ∀ (m p a : Nat), shr L p a m ≤ m
  | 0, p, a => Nat.le_refl _
  | m + 1, p, a => by
    rw [shr]
    split
    · have := shr_le L m (p + 1) (a + 1); omega
    · omega
theorem shr_iff (L : List UInt8) : ∀ (m p a k : Nat), k ≤ m → (k ≤ shr L p a m ↔ ∀ j, j < k → L.getD (p + j) 0 = L.getD (a + j) 0)
  | 0, p, a, k, hk => by
    have : k = 0 := by omega
    subst this
    exact ⟨fun _ j hj => by omega, fun _ => Nat.zero_le _⟩
  | m + 1, p, a, k, hk => by
    cases k with
    | zero => exact ⟨fun _ j hj => by omega, fun _ => Nat.zero_le _⟩
    | succ k =>
      rw [shr]
      by_cases h : L.getD p 0 = L.getD a 0
      · rw [if_pos h]
        have ih := shr_iff L m (p + 1) (a + 1) k (by omega)
        constructor
        · intro hk2 j hj
          cases j with
          | zero => exact h
          | succ j =>
            have := (ih.1 (by omega)) j (by omega)
            rw [show p + (j + 1) = p + 1 + j by omega, show a + (j + 1) = a + 1 + j by omega]
            exact this
        · intro hj
          have := ih.2 (fun j hj2 => by
            have := hj (j + 1) (by omega)
            rw [show p + (j + 1) = p + 1 + j by omega, show a + (j + 1) = a + 1 + j by omega] at this
            exact this)
          omega
      · rw [if_neg h]
        constructor
        · intro hk2; omega
        · intro hj; exact absurd (hj 0 (by omega)) h
/-- It is just so many. -/
theorem shr_eq (L : List UInt8) (m p a k : Nat) (hk : k ≤ m) (h1 : ∀ j, j < k → L.getD (p + j) 0 = L.getD (a + j) 0) (h2 : k = m ∨ L.getD (p + k) 0 ≠ L.getD (a + k) 0) : shr L p a m = k := by
  have g1 := (shr_iff L m p a k hk).2 h1
  have g2 := shr_le L m p a
  rcases h2 with h2 | h2
  · omega
  · by_cases h : k = shr L p a m
    · exact h.symm
    · exfalso
      apply h2
      exact (shr_iff L m p a (k + 1) (by omega)).1 (by omega) k (by omega)
def mostN (L : List UInt8) (a : Nat) : Nat := min 258 (L.length - a)
/-- How many from a place on are those so far ahead of it. -/
def candN (L : List UInt8) (a d : Nat) : Nat := shr L (a - d) a (mostN L a)
theorem cand_le (L : List UInt8) (a d : Nat) : candN L a d ≤ mostN L a := shr_le _ _ _ _

/-- The longest of the first so many, and the nearest of them, above a length. -/
def BestP (c : Nat → Nat) (D n0 n dist : Nat) : Prop :=
  (dist = 0 ∧ n = n0 ∧ ∀ d, 1 ≤ d → d ≤ D → c d ≤ n0) ∨ (1 ≤ dist ∧ dist ≤ D ∧ n = c dist ∧ n0 < n ∧ ∀ d, 1 ≤ d → d ≤ D → c d ≤ n ∧ (d < dist → c d < n))
theorem BestP.start (c : Nat → Nat) (n0 : Nat) : BestP c 0 n0 n0 0 := .inl ⟨rfl, rfl, fun d h1 h2 => by omega⟩
theorem BestP.uniq {c : Nat → Nat} {D n0 n1 d1 n2 d2 : Nat} (h : BestP c D n0 n1 d1) (g : BestP c D n0 n2 d2) : n1 = n2 ∧ d1 = d2 := by
  rcases h with ⟨rfl, rfl, h⟩ | ⟨h1, h2, h3, h4, h5⟩
  · rcases g with ⟨rfl, rfl, g⟩ | ⟨g1, g2, g3, g4, g5⟩
    · exact ⟨rfl, rfl⟩
    · have := h d2 g1 g2; omega
  · rcases g with ⟨rfl, rfl, g⟩ | ⟨g1, g2, g3, g4, g5⟩
    · have := g d1 h1 h2; omega
    · have a1 := h5 d2 g1 g2
      have a2 := g5 d1 h1 h2
      refine ⟨by omega, ?_⟩
      rcases Nat.lt_trichotomy d1 d2 with h | h | h
      · have := a2.2 h; omega
      · exact h
      · have := a1.2 h; omega
theorem BestP.le {c : Nat → Nat} {D n0 n d : Nat} (h : BestP c D n0 n d) : n0 ≤ n ∧ d ≤ D ∧ (d = 0 → n = n0) ∧ (d ≠ 0 → n0 < n) := by
  rcases h with ⟨rfl, rfl, h⟩ | ⟨h1, h2, h3, h4, h5⟩
  · exact ⟨Nat.le_refl _, Nat.zero_le _, fun _ => rfl, fun h => absurd rfl h⟩
  · exact ⟨by omega, h2, fun h => by omega, fun _ => h4⟩
/-- Those that are no longer change nothing. -/
theorem BestP.skip {c : Nat → Nat} {D D2 n0 n d : Nat} (h : BestP c D n0 n d) (hD : D ≤ D2) (hc : ∀ e, D < e → e ≤ D2 → c e ≤ n) : BestP c D2 n0 n d := by
  rcases h with ⟨rfl, rfl, h⟩ | ⟨h1, h2, h3, h4, h5⟩
  · refine .inl ⟨rfl, rfl, fun e e1 e2 => ?_⟩
    by_cases he : e ≤ D
    · exact h e e1 he
    · exact hc e (by omega) e2
  · refine .inr ⟨h1, by omega, h3, h4, fun e e1 e2 => ?_⟩
    by_cases he : e ≤ D
    · exact h5 e e1 he
    · exact ⟨hc e (by omega) e2, fun h => by omega⟩
theorem BestP.take {c : Nat → Nat} {D n0 n d : Nat} (h : BestP c D n0 n d) (hc : n < c (D + 1)) : BestP c (D + 1) n0 (c (D + 1)) (D + 1) := by
  have hle := h.le
  refine .inr ⟨by omega, Nat.le_refl _, rfl, by omega, fun e e1 e2 => ?_⟩
  by_cases he : e ≤ D
  · have : c e ≤ n := by
      rcases h with ⟨_, rfl, h⟩ | ⟨_, _, _, _, h5⟩
      · exact h e e1 he
      · exact (h5 e e1 he).1
    exact ⟨by omega, fun _ => by omega⟩
  · have : e = D + 1 := by omega
    subst this
    exact ⟨Nat.le_refl _, fun h => by omega⟩
/-- One more is tried. -/
theorem BestP.step {c : Nat → Nat} {D n0 n d : Nat} (h : BestP c D n0 n d) : BestP c (D + 1) n0 (if n < c (D + 1) then c (D + 1) else n) (if n < c (D + 1) then D + 1 else d) := by
  by_cases hc : n < c (D + 1)
  · rw [if_pos hc, if_pos hc]; exact h.take hc
  · rw [if_neg hc, if_neg hc]
    refine h.skip (by omega) (fun e e1 e2 => ?_)
    have : e = D + 1 := by omega
    subst this
    omega
/-- What is found above a greater length is the best above a lesser one. -/
theorem BestP.lower {c : Nat → Nat} {D n0 m n d : Nat} (h : BestP c D n0 n d) (hd : d ≠ 0) (hm : m ≤ n0) : BestP c D m n d := by
  rcases h with ⟨rfl, rfl, h⟩ | ⟨h1, h2, h3, h4, h5⟩
  · exact absurd rfl hd
  · exact .inr ⟨h1, h2, h3, by omega, h5⟩
def scanN (c : Nat → Nat) (n0 : Nat) : Nat → Nat × Nat
  | 0 => (n0, 0)
  | D + 1 => (if (scanN c n0 D).1 < c (D + 1) then c (D + 1) else (scanN c n0 D).1, if (scanN c n0 D).1 < c (D + 1) then D + 1 else (scanN c n0 D).2)
theorem scan_best (c : Nat → Nat) (n0 : Nat) : ∀ D, BestP c D n0 (scanN c n0 D).1 (scanN c n0 D).2
  | 0 => BestP.start c n0
  | D + 1 => (scan_best c n0 D).step
def ansN (s : Nat × Nat) : Nat × Nat := if s.2 = 0 then (0, 0) else s
/-- The longest row that was there before, and the least way back to such. -/
def longN (L : List UInt8) (a : Nat) : Nat × Nat := ansN (scanN (candN L a) 2 (min a 32768))
theorem long_of {L : List UInt8} {a n d : Nat} (h : BestP (candN L a) (min a 32768) 2 n d) : longN L a = if d = 0 then (0, 0) else (n, d) := by
  obtain ⟨h1, h2⟩ := (scan_best (candN L a) 2 (min a 32768)).uniq h
  obtain ⟨s, hs⟩ : ∃ s, s = scanN (candN L a) 2 (min a 32768) := ⟨_, rfl⟩
  rw [longN, ansN, ← hs]
  rw [← hs] at h1 h2
  obtain ⟨s1, s2⟩ := s
  simp only at h1 h2
  subst h1 h2
  rfl
theorem long_ok (L : List UInt8) (a : Nat) : ((longN L a).1 = 0 ∧ (longN L a).2 = 0 ∧ ∀ d, 1 ≤ d → d ≤ min a 32768 → candN L a d ≤ 2) ∨
    (3 ≤ (longN L a).1 ∧ (longN L a).1 ≤ mostN L a ∧ 1 ≤ (longN L a).2 ∧ (longN L a).2 ≤ min a 32768 ∧ candN L a (longN L a).2 = (longN L a).1 ∧ ∀ d, 1 ≤ d → d ≤ min a 32768 → candN L a d ≤ (longN L a).1 ∧ (d < (longN L a).2 → candN L a d < (longN L a).1)) := by
  have h := scan_best (candN L a) 2 (min a 32768)
  rw [long_of h]
  rcases h with ⟨h1, h2, h3⟩ | ⟨h1, h2, h3, h4, h5⟩
  · rw [if_pos h1]; exact .inl ⟨rfl, rfl, h3⟩
  · rw [if_neg (by omega)]
    refine .inr ⟨by simp only; omega, ?_, h1, h2, h3.symm, h5⟩
    rw [h3]; exact cand_le _ _ _

/-- The last place ahead of one that has a slot. -/
def prevN (slot : Nat → Nat) (s : Nat) : Nat → Int
  | 0 => -1
  | i + 1 => if slot i = s then (i : Int) else prevN slot s i
theorem prev_spec (slot : Nat → Nat) (s : Nat) : ∀ i, (prevN slot s i = -1 ∧ ∀ p, p < i → slot p ≠ s) ∨ ∃ q : Nat, prevN slot s i = (q : Int) ∧ q < i ∧ slot q = s ∧ ∀ p, q < p → p < i → slot p ≠ s
  | 0 => .inl ⟨rfl, fun p hp => by omega⟩
  | i + 1 => by
    rw [prevN]
    by_cases h : slot i = s
    · rw [if_pos h]
      exact .inr ⟨i, rfl, by omega, h, fun p h1 h2 => by omega⟩
    · rw [if_neg h]
      rcases prev_spec slot s i with ⟨h1, h2⟩ | ⟨q, h1, h2, h3, h4⟩
      · refine .inl ⟨h1, fun p hp => ?_⟩
        by_cases e : p = i
        · subst e; exact h
        · exact h2 p (by omega)
      · refine .inr ⟨q, h1, by omega, h3, fun p p1 p2 => ?_⟩
        by_cases e : p = i
        · subst e; exact h
        · exact h4 p p1 (by omega)
theorem prev_bd (slot : Nat → Nat) (s i : Nat) : -1 ≤ prevN slot s i ∧ prevN slot s i < (i : Int) := by
  rcases prev_spec slot s i with ⟨h, _⟩ | ⟨q, h, hq, _⟩ <;> rw [h] <;> omega

/-- The number that some bytes spell. -/
def keyN (L : List UInt8) (k p : Nat) : Nat := leNat ((L.drop p).take k)
theorem leNat_cons (b : UInt8) (r : List UInt8) : leNat (b :: r) = b.toNat + 256 * leNat r := by simp [leNat]
theorem leNat_lt : ∀ l : List UInt8, leNat l < 256 ^ l.length
  | [] => by simp [leNat]
  | b :: r => by
    have := leNat_lt r
    have hb := b.toNat_lt
    rw [leNat_cons, List.length_cons, Nat.pow_succ]
    omega
theorem leNat_inj : ∀ (a b : List UInt8), a.length = b.length → leNat a = leNat b → a = b
  | [], [], _, _ => rfl
  | x :: a, y :: b, hl, h => by
    rw [leNat_cons, leNat_cons] at h
    have hx := x.toNat_lt
    have hy := y.toNat_lt
    have h1 : x.toNat = y.toNat := by omega
    have h2 : leNat a = leNat b := by omega
    rw [UInt8.toNat_inj.1 h1, leNat_inj a b (by simpa using hl) h2]
  | [], _ :: _, hl, _ => by simp at hl
  | _ :: _, [], hl, _ => by simp at hl
theorem leNat_mod : ∀ (j : Nat) (l : List UInt8), leNat l % 256 ^ j = leNat (l.take j)
  | 0, l => by simp [leNat, Nat.mod_one]
  | j + 1, [] => by simp [leNat]
  | j + 1, b :: r => by
    have ih := leNat_mod j r
    rw [List.take_succ_cons, leNat_cons, leNat_cons, ← ih, Nat.pow_succ]
    have hb := b.toNat_lt
    have hp : 0 < 256 ^ j := Nat.pow_pos (by omega)
    have e : b.toNat + 256 * leNat r = (b.toNat + 256 * (leNat r % 256 ^ j)) + (256 ^ j * 256) * (leNat r / 256 ^ j) := by
      have := Nat.div_add_mod (leNat r) (256 ^ j)
      conv => lhs; rw [← this]
      rw [Nat.mul_add, ← Nat.mul_assoc 256, Nat.mul_comm 256 (256 ^ j)]
      omega
    rw [e, Nat.add_mul_mod_self_left, Nat.mod_eq_of_lt]
    have := Nat.mod_lt (leNat r) hp
    omega
theorem take_getD_eq (L : List UInt8) (p q k : Nat) (hp : p + k ≤ L.length) (hq : q + k ≤ L.length) : (L.drop p).take k = (L.drop q).take k ↔ ∀ j, j < k → L.getD (p + j) 0 = L.getD (q + j) 0 := by
  constructor
  · intro h j hj
    have := congrArg (fun l => l[j]?) h
    simp only [List.getElem?_take_of_lt hj, List.getElem?_drop] at this
    simp [List.getD, this]
  · intro h
    apply List.ext_getElem?
    intro j
    by_cases hj : j < k
    · rw [List.getElem?_take_of_lt hj, List.getElem?_take_of_lt hj, List.getElem?_drop, List.getElem?_drop]
      have := h j hj
      simp only [List.getD] at this
      rw [List.getElem?_eq_getElem (by omega), List.getElem?_eq_getElem (by omega)] at this ⊢
      simpa using this
    · rw [List.getElem?_eq_none (by simp; omega), List.getElem?_eq_none (by simp; omega)]
/-- Keys are alike just where the bytes are. -/
theorem key_iff (L : List UInt8) (k p q : Nat) (hp : p + k ≤ L.length) (hq : q + k ≤ L.length) : keyN L k p = keyN L k q ↔ ∀ j, j < k → L.getD (p + j) 0 = L.getD (q + j) 0 := by
  rw [← take_getD_eq L p q k hp hq]
  constructor
  · intro h
    exact leNat_inj _ _ (by simp; omega) h
  · intro h; unfold keyN; rw [h]
theorem key_lt (L : List UInt8) (k p : Nat) : keyN L k p < 256 ^ k := by
  have := leNat_lt ((L.drop p).take k)
  have h2 : ((L.drop p).take k).length ≤ k := by rw [List.length_take]; omega
  exact Nat.lt_of_lt_of_le this (Nat.pow_le_pow_right (by omega) h2)
theorem xor_zero (a b : Nat) : a ^^^ b = 0 ↔ a = b := by
  constructor
  · intro h
    have := congrArg (· ^^^ b) h
    simpa [Nat.xor_assoc] using this
  · rintro rfl; exact Nat.xor_self a
theorem ctz_at (x : Nat) (h0 : x ≠ 0) (h : x < 18446744073709551616) : ctz 64 x < 64 ∧ x % 2 ^ ctz 64 x = 0 ∧ x % 2 ^ (ctz 64 x + 1) ≠ 0 := by
  obtain ⟨m, h1, h2⟩ := ctzFrom_spec 64 x (by omega) h
  have e : ctz 64 x = ctzFrom 64 x := if_neg h0
  rw [e]
  refine ⟨h2, ?_, ?_⟩
  · conv => lhs; lhs; rw [h1]
    exact Nat.mul_mod_right _ _
  · conv => lhs; lhs; rw [h1]
    rw [Nat.pow_succ, Nat.mul_mod_mul_left]
    have hp : 0 < 2 ^ ctzFrom 64 x := Nat.pow_pos (by omega)
    have : (2 * m + 1) % 2 = 1 := by omega
    rw [this]
    omega
/-- Where two rows of eight bytes part. -/
theorem ctz_part (L : List UInt8) (p q : Nat) (hp : p + 8 ≤ L.length) (hq : q + 8 ≤ L.length) (hne : keyN L 8 p ^^^ keyN L 8 q ≠ 0) :
    ctz 64 (keyN L 8 p ^^^ keyN L 8 q) / 8 < 8 ∧ (∀ j, j < ctz 64 (keyN L 8 p ^^^ keyN L 8 q) / 8 → L.getD (p + j) 0 = L.getD (q + j) 0) ∧
      L.getD (p + ctz 64 (keyN L 8 p ^^^ keyN L 8 q) / 8) 0 ≠ L.getD (q + ctz 64 (keyN L 8 p ^^^ keyN L 8 q) / 8) 0 := by
  have hx : keyN L 8 p < 2 ^ 64 := key_lt L 8 p
  have hy : keyN L 8 q < 2 ^ 64 := key_lt L 8 q
  obtain ⟨h1, h2, h3⟩ := ctz_at _ hne (Nat.xor_lt_two_pow hx hy)
  obtain ⟨c, hc⟩ : ∃ c, c = ctz 64 (keyN L 8 p ^^^ keyN L 8 q) := ⟨_, rfl⟩
  rw [← hc] at h1 h2 h3 ⊢
  have hmod : ∀ m, (keyN L 8 p ^^^ keyN L 8 q) % 2 ^ m = 0 ↔ keyN L 8 p % 2 ^ m = keyN L 8 q % 2 ^ m := by
    intro m
    rw [Nat.xor_mod_two_pow, xor_zero]
  have h8 : ∀ j, j ≤ 8 → (keyN L 8 p % 2 ^ (8 * j) = keyN L 8 q % 2 ^ (8 * j) ↔ ∀ i, i < j → L.getD (p + i) 0 = L.getD (q + i) 0) := by
    intro j hj
    rw [Nat.pow_mul, show 2 ^ 8 = 256 from rfl]
    unfold keyN
    rw [leNat_mod, leNat_mod, List.take_take, List.take_take, Nat.min_eq_left hj]
    exact key_iff L j p q (by omega) (by omega)
  have hdown : ∀ m n, m ≤ n → keyN L 8 p % 2 ^ n = keyN L 8 q % 2 ^ n → keyN L 8 p % 2 ^ m = keyN L 8 q % 2 ^ m := by
    intro m n hmn h
    have hd : 2 ^ m ∣ 2 ^ n := Nat.pow_dvd_pow 2 hmn
    rw [← Nat.mod_mod_of_dvd (keyN L 8 p) hd, h, Nat.mod_mod_of_dvd _ hd]
  have g2 := (hmod c).1 h2
  have hlow := (h8 (c / 8) (by omega)).1 (hdown (8 * (c / 8)) c (by omega) g2)
  refine ⟨by omega, hlow, fun he => ?_⟩
  apply h3
  apply (hmod (c + 1)).2
  refine hdown (c + 1) (8 * (c / 8 + 1)) (by omega) ((h8 (c / 8 + 1) (by omega)).2 (fun i hi => ?_))
  by_cases e : i = c / 8
  · subst e; exact he
  · exact hlow i (by omega)
end Go.Proofs.YtifoldonmmobpaaDoor
