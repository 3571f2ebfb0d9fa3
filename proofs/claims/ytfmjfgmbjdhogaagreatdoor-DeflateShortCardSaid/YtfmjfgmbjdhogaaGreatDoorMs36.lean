/-
  What was there before, on paper: the longest row, the nearest of them; chains. No Go in sight.
  match: word, TrailingZeros64, shared.
  match: TrailingZeros64 by its table; shared.
-/
import Derived.Test.YtfmjfgmbjdhogaaGreatDoorMs35
import Derived.Lib.Endian
import Derived.Lib.TrailingZeros
import Derived.Lib.EndianBits
import Derived.Laws.Bits64b
import Derived.BigQuiet
import Derived.Deep.QuietTactic
import Derived.Deep.RegionHeld3
import Derived.Lib.LaidTab
import Derived.Deep.CutBlock
namespace Go.Proofs.YtfmjfgmbjdhogaaGreatDoor
open Go.Lib
set_option linter.unusedVariables false

/-- How many bytes are alike from two places on, at most so many. -/
def shr (L : List UInt8) (p a : Nat) : Nat → Nat
  | 0 => 0
  | m + 1 => if L.getD p 0 = L.getD a 0 then shr L (p + 1) (a + 1) m + 1 else 0
theorem shr_le (L : List UInt8) : ∀ (m p a : Nat), shr L p a m ≤ m
  | 0, p, a => Nat.le_refl _
  | m + 1, p, a => by
    rw [shr]
    split
    · have := shr_le L m (p + 1) (a + 1); omega
    · omega
theorem shr_iff (L : List UInt8) : ∀ (m p a k : Nat), k ≤ m → (k ≤ shr L p a m ↔ ∀ j, j < k → L.getD (p + j) 0 = L.getD (a + j) 0)
  | 0, p, a, k, hk => by
    have : k = 0 := by omega
    subst this
    exact ⟨fun _ j hj => by omega, fun _ => Nat.zero_le _⟩
  | m + 1, p, a, k, hk => by
    cases k with
    | zero => exact ⟨fun _ j hj => by omega, fun _ => Nat.zero_le _⟩
    | succ k =>
      rw [shr]
      by_cases h : L.getD p 0 = L.getD a 0
      · rw [if_pos h]
        have ih := shr_iff L m (p + 1) (a + 1) k (by omega)
        constructor
        · intro hk2 j hj
          cases j with
          | zero => exact h
          | succ j =>
            have := (ih.1 (by omega)) j (by omega)
            rw [show p + (j + 1) = p + 1 + j by omega, show a + (j + 1) = a + 1 + j by omega]
            exact this
        · intro hj
          have := ih.2 (fun j hj2 => by
            have := hj (j + 1) (by omega)
            rw [show p + (j + 1) = p + 1 + j by omega, show a + (j + 1) = a + 1 + j by omega] at this
            exact this)
          omega
      · rw [if_neg h]
        constructor
        · intro hk2; omega
        · intro hj; exact absurd (hj 0 (by omega)) h
/-- It is just so many. -/
theorem shr_eq (L : List UInt8) (m p a k : Nat) (hk : k ≤ m) (h1 : ∀ j, j < k → L.getD (p + j) 0 = L.getD (a + j) 0) (h2 : k = m ∨ L.getD (p + k) 0 ≠ L.getD (a + k) 0) : shr L p a m = k := by
  have g1 := (shr_iff L m p a k hk).2 h1
  have g2 := shr_le L m p a
  rcases h2 with h2 | h2
  · omega
  · by_cases h : k = shr L p a m
    · exact h.symm
    · exfalso
      apply h2
      exact (shr_iff L m p a (k + 1) (by omega)).1 (by omega) k (by omega)
def mostN (L : List UInt8) (a : Nat) : Nat := min 258 (L.length - a)
/-- How many from a place on are those so far ahead of it. -/
def candN (L : List UInt8) (a d : Nat) : Nat := shr L (a - d) a (mostN L a)
theorem cand_le (L : List UInt8) (a d : Nat) : candN L a d ≤ mostN L a := shr_le _ _ _ _

/-- The longest of the first so many, and the nearest of them, above a length. -/
def BestP (c : Nat → Nat) (D n0 n dist : Nat) : Prop :=
  (dist = 0 ∧ n = n0 ∧ ∀ d, 1 ≤ d → d ≤ D → c d ≤ n0) ∨ (1 ≤ dist ∧ dist ≤ D ∧ n = c dist ∧ n0 < n ∧ ∀ d, 1 ≤ d → d ≤ D → c d ≤ n ∧ (d < dist → c d < n))
theorem BestP.start (c : Nat → Nat) (n0 : Nat) : BestP c 0 n0 n0 0 := .inl ⟨rfl, rfl, fun d h1 h2 => by omega⟩
theorem BestP.uniq {c : Nat → Nat} {D n0 n1 d1 n2 d2 : Nat} (h : BestP c D n0 n1 d1) (g : BestP c D n0 n2 d2) : n1 = n2 ∧ d1 = d2 := by
  rcases h with ⟨rfl, rfl, h⟩ | ⟨h1, h2, h3, h4, h5⟩
  · rcases g with ⟨rfl, rfl, g⟩ | ⟨g1, g2, g3, g4, g5⟩
    · exact ⟨rfl, rfl⟩
    · have := h d2 g1 g2; omega
  · rcases g with ⟨rfl, rfl, g⟩ | ⟨g1, g2, g3, g4, g5⟩
    · have := g d1 h1 h2; omega
    · have a1 := h5 d2 g1 g2
      have a2 := g5 d1 h1 h2
      refine ⟨by omega, ?_⟩
      rcases Nat.lt_trichotomy d1 d2 with h | h | h
      · have := a2.2 h; omega
      · exact h
      · have := a1.2 h; omega
theorem BestP.le {c : Nat → Nat} {D n0 n d : Nat} (h : BestP c D n0 n d) : n0 ≤ n ∧ d ≤ D ∧ (d = 0 → n = n0) ∧ (d ≠ 0 → n0 < n) := by
  rcases h with ⟨rfl, rfl, h⟩ | ⟨h1, h2, h3, h4, h5⟩
  · exact ⟨Nat.le_refl _, Nat.zero_le _, fun _ => rfl, fun h => absurd rfl h⟩
  · exact ⟨by omega, h2, fun h => by omega, fun _ => h4⟩
/-- Those that are no longer change nothing. -/
theorem BestP.skip {c : Nat → Nat} {D D2 n0 n d : Nat} (h : BestP c D n0 n d) (hD : D ≤ D2) (hc : ∀ e, D < e → e ≤ D2 → c e ≤ n) : BestP c D2 n0 n d := by
  rcases h with ⟨rfl, rfl, h⟩ | ⟨h1, h2, h3, h4, h5⟩
  · refine .inl ⟨rfl, rfl, fun e e1 e2 => ?_⟩
    by_cases he : e ≤ D
    · exact h e e1 he
    · exact hc e (by omega) e2
  · refine .inr ⟨h1, by omega, h3, h4, fun e e1 e2 => ?_⟩
    by_cases he : e ≤ D
    · exact h5 e e1 he
    · exact ⟨hc e (by omega) e2, fun h => by omega⟩
theorem BestP.take {c : Nat → Nat} {D n0 n d : Nat} (h : BestP c D n0 n d) (hc : n < c (D + 1)) : BestP c (D + 1) n0 (c (D + 1)) (D + 1) := by
  have hle := h.le
  refine .inr ⟨by omega, Nat.le_refl _, rfl, by omega, fun e e1 e2 => ?_⟩
  by_cases he : e ≤ D
  · have : c e ≤ n := by
      rcases h with ⟨_, rfl, h⟩ | ⟨_, _, _, _, h5⟩
      · exact h e e1 he
      · exact (h5 e e1 he).1
    exact ⟨by omega, fun _ => by omega⟩
  · have : e = D + 1 := by omega
    subst this
    exact ⟨Nat.le_refl _, fun h => by omega⟩
/-- One more is tried. -/
theorem BestP.step {c : Nat → Nat} {D n0 n d : Nat} (h : BestP c D n0 n d) : BestP c (D + 1) n0 (if n < c (D + 1) then c (D + 1) else n) (if n < c (D + 1) then D + 1 else d) := by
  by_cases hc : n < c (D + 1)
  · rw [if_pos hc, if_pos hc]; exact h.take hc
  · rw [if_neg hc, if_neg hc]
    refine h.skip (by omega) (fun e e1 e2 => ?_)
    have : e = D + 1 := by omega
    subst this
    omega
/-- What is found above a greater length is the best above a lesser one. -/
theorem BestP.lower {c : Nat → Nat} {D n0 m n d : Nat} (h : BestP c D n0 n d) (hd : d ≠ 0) (hm : m ≤ n0) : BestP c D m n d := by
  rcases h with ⟨rfl, rfl, h⟩ | ⟨h1, h2, h3, h4, h5⟩
  · exact absurd rfl hd
  · exact .inr ⟨h1, h2, h3, by omega, h5⟩
def scanN (c : Nat → Nat) (n0 : Nat) : Nat → Nat × Nat
  | 0 => (n0, 0)
  | D + 1 => (if (scanN c n0 D).1 < c (D + 1) then c (D + 1) else (scanN c n0 D).1, if (scanN c n0 D).1 < c (D + 1) then D + 1 else (scanN c n0 D).2)
theorem scan_best (c : Nat → Nat) (n0 : Nat) : ∀ D, BestP c D n0 (scanN c n0 D).1 (scanN c n0 D).2
  | 0 => BestP.start c n0
  | D + 1 => (scan_best c n0 D).step
def ansN (s : Nat × Nat) : Nat × Nat := if s.2 = 0 then (0, 0) else s
/-- The longest row that was there before, and the least way back to such. -/
def longN (L : List UInt8) (a : Nat) : Nat × Nat := ansN (scanN (candN L a) 2 (min a 32768))
theorem long_of {L : List UInt8} {a n d : Nat} (h : BestP (candN L a) (min a 32768) 2 n d) : longN L a = if d = 0 then (0, 0) else (n, d) := by
  obtain ⟨h1, h2⟩ := (scan_best (candN L a) 2 (min a 32768)).uniq h
  obtain ⟨s, hs⟩ : ∃ s, s = scanN (candN L a) 2 (min a 32768) := ⟨_, rfl⟩
  rw [longN, ansN, ← hs]
  rw [← hs] at h1 h2
  obtain ⟨s1, s2⟩ := s
  simp only at h1 h2
  subst h1 h2
  rfl
theorem long_ok (L : List UInt8) (a : Nat) : ((longN L a).1 = 0 ∧ (longN L a).2 = 0 ∧ ∀ d, 1 ≤ d → d ≤ min a 32768 → candN L a d ≤ 2) ∨
    (3 ≤ (longN L a).1 ∧ (longN L a).1 ≤ mostN L a ∧ 1 ≤ (longN L a).2 ∧ (longN L a).2 ≤ min a 32768 ∧ candN L a (longN L a).2 = (longN L a).1 ∧ ∀ d, 1 ≤ d → d ≤ min a 32768 → candN L a d ≤ (longN L a).1 ∧ (d < (longN L a).2 → candN L a d < (longN L a).1)) := by
  have h := scan_best (candN L a) 2 (min a 32768)
  rw [long_of h]
  rcases h with ⟨h1, h2, h3⟩ | ⟨h1, h2, h3, h4, h5⟩
  · rw [if_pos h1]; exact .inl ⟨rfl, rfl, h3⟩
  · rw [if_neg (by omega)]
    refine .inr ⟨by simp only; omega, ?_, h1, h2, h3.symm, h5⟩
    rw [h3]; exact cand_le _ _ _

/-- The last place ahead of one that has a slot. -/
def prevN (slot : Nat → Nat) (s : Nat) : Nat → Int
  | 0 => -1
  | i + 1 => if slot i = s then (i : Int) else prevN slot s i
theorem prev_spec (slot : Nat → Nat) (s : Nat) : ∀ i, (prevN slot s i = -1 ∧ ∀ p, p < i → slot p ≠ s) ∨ ∃ q : Nat, prevN slot s i = (q : Int) ∧ q < i ∧ slot q = s ∧ ∀ p, q < p → p < i → slot p ≠ s
  | 0 => .inl ⟨rfl, fun p hp => by omega⟩
  | i + 1 => by
    rw [prevN]
    by_cases h : slot i = s
    · rw [if_pos h]
      exact .inr ⟨i, rfl, by omega, h, fun p h1 h2 => by omega⟩
    · rw [if_neg h]
      rcases prev_spec slot s i with ⟨h1, h2⟩ | ⟨q, h1, h2, h3, h4⟩
      · refine .inl ⟨h1, fun p hp => ?_⟩
        by_cases e : p = i
        · subst e; exact h
        · exact h2 p (by omega)
      · refine .inr ⟨q, h1, by omega, h3, fun p p1 p2 => ?_⟩
        by_cases e : p = i
        · subst e; exact h
        · exact h4 p p1 (by omega)
theorem prev_bd (slot : Nat → Nat) (s i : Nat) : -1 ≤ prevN slot s i ∧ prevN slot s i < (i : Int) := by
  rcases prev_spec slot s i with ⟨h, _⟩ | ⟨q, h, hq, _⟩ <;> rw [h] <;> omega

/-- The number that some bytes spell. -/
def keyN (L : List UInt8) (k p : Nat) : Nat := leNat ((L.drop p).take k)
theorem leNat_cons (b : UInt8) (r : List UInt8) : leNat (b :: r) = b.toNat + 256 * leNat r := by simp [leNat]
theorem leNat_lt : ∀ l : List UInt8, leNat l < 256 ^ l.length
  | [] => by simp [leNat]
  | b :: r => by
    have := leNat_lt r
    have hb := b.toNat_lt
    rw [leNat_cons, List.length_cons, Nat.pow_succ]
    omega
theorem leNat_inj : ∀ (a b : List UInt8), a.length = b.length → leNat a = leNat b → a = b
  | [], [], _, _ => rfl
  | x :: a, y :: b, hl, h => by
    rw [leNat_cons, leNat_cons] at h
    have hx := x.toNat_lt
    have hy := y.toNat_lt
    have h1 : x.toNat = y.toNat := by omega
    have h2 : leNat a = leNat b := by omega
    rw [UInt8.toNat_inj.1 h1, leNat_inj a b (by simpa using hl) h2]
  | [], _ :: _, hl, _ => by simp at hl
  | _ :: _, [], hl, _ => by simp at hl
theorem leNat_mod : ∀ (j : Nat) (l : List UInt8), leNat l % 256 ^ j = leNat (l.take j)
  | 0, l => by simp [leNat, Nat.mod_one]
  | j + 1, [] => by simp [leNat]
  | j + 1, b :: r => by
    have ih := leNat_mod j r
    rw [List.take_succ_cons, leNat_cons, leNat_cons, ← ih, Nat.pow_succ]
    have hb := b.toNat_lt
    have hp : 0 < 256 ^ j := Nat.pow_pos (by omega)
    have e : b.toNat + 256 * leNat r = (b.toNat + 256 * (leNat r % 256 ^ j)) + (256 ^ j * 256) * (leNat r / 256 ^ j) := by
      have := Nat.div_add_mod (leNat r) (256 ^ j)
      conv => lhs; rw [← this]
      rw [Nat.mul_add, ← Nat.mul_assoc 256, Nat.mul_comm 256 (256 ^ j)]
      omega
    rw [e, Nat.add_mul_mod_self_left, Nat.mod_eq_of_lt]
    have := Nat.mod_lt (leNat r) hp
    omega
theorem take_getD_eq (L : List UInt8) (p q k : Nat) (hp : p + k ≤ L.length) (hq : q + k ≤ L.length) : (L.drop p).take k = (L.drop q).take k ↔ ∀ j, j < k → L.getD (p + j) 0 = L.getD (q + j) 0 := by
  constructor
  · intro h j hj
    have := congrArg (fun l => l[j]?) h
    simp only [List.getElem?_take_of_lt hj, List.getElem?_drop] at this
    simp [List.getD, this]
  · intro h
    apply List.ext_getElem?
    intro j
    by_cases hj : j < k
    · rw [List.getElem?_take_of_lt hj, List.getElem?_take_of_lt hj, List.getElem?_drop, List.getElem?_drop]
      have := h j hj
      simp only [List.getD] at this
      rw [List.getElem?_eq_getElem (by omega), List.getElem?_eq_getElem (by omega)] at this ⊢
      simpa using this
    · rw [List.getElem?_eq_none (by simp; omega), List.getElem?_eq_none (by simp; omega)]
/-- Keys are alike just where the bytes are. -/
theorem key_iff (L : List UInt8) (k p q : Nat) (hp : p + k ≤ L.length) (hq : q + k ≤ L.length) : keyN L k p = keyN L k q ↔ ∀ j, j < k → L.getD (p + j) 0 = L.getD (q + j) 0 := by
  rw [← take_getD_eq L p q k hp hq]
  constructor
  · intro h
    exact leNat_inj _ _ (by simp; omega) h
  · intro h; unfold keyN; rw [h]
theorem key_lt (L : List UInt8) (k p : Nat) : keyN L k p < 256 ^ k := by
  have := leNat_lt ((L.drop p).take k)
  have h2 : ((L.drop p).take k).length ≤ k := by rw [List.length_take]; omega
  exact Nat.lt_of_lt_of_le this (Nat.pow_le_pow_right (by omega) h2)
theorem xor_zero (a b : Nat) : a ^^^ b = 0 ↔ a = b := by
  constructor
  · intro h
    have := congrArg (· ^^^ b) h
    simpa [Nat.xor_assoc] using this
  · rintro rfl; exact Nat.xor_self a
theorem ctz_at (x : Nat) (h0 : x ≠ 0) (h : x < 18446744073709551616) : ctz 64 x < 64 ∧ x % 2 ^ ctz 64 x = 0 ∧ x % 2 ^ (ctz 64 x + 1) ≠ 0 := by
  obtain ⟨m, h1, h2⟩ := ctzFrom_spec 64 x (by omega) h
  have e : ctz 64 x = ctzFrom 64 x := if_neg h0
  rw [e]
  refine ⟨h2, ?_, ?_⟩
  · conv => lhs; lhs; rw [h1]
    exact Nat.mul_mod_right _ _
  · conv => lhs; lhs; rw [h1]
    rw [Nat.pow_succ, Nat.mul_mod_mul_left]
    have hp : 0 < 2 ^ ctzFrom 64 x := Nat.pow_pos (by omega)
    have : (2 * m + 1) % 2 = 1 := by omega
    rw [this]
    omega
/-- Where two rows of eight bytes part. -/
theorem ctz_part (L : List UInt8) (p q : Nat) (hp : p + 8 ≤ L.length) (hq : q + 8 ≤ L.length) (hne : keyN L 8 p ^^^ keyN L 8 q ≠ 0) :
    ctz 64 (keyN L 8 p ^^^ keyN L 8 q) / 8 < 8 ∧ (∀ j, j < ctz 64 (keyN L 8 p ^^^ keyN L 8 q) / 8 → L.getD (p + j) 0 = L.getD (q + j) 0) ∧
      L.getD (p + ctz 64 (keyN L 8 p ^^^ keyN L 8 q) / 8) 0 ≠ L.getD (q + ctz 64 (keyN L 8 p ^^^ keyN L 8 q) / 8) 0 := by
  have hx : keyN L 8 p < 2 ^ 64 := key_lt L 8 p
  have hy : keyN L 8 q < 2 ^ 64 := key_lt L 8 q
  obtain ⟨h1, h2, h3⟩ := ctz_at _ hne (Nat.xor_lt_two_pow hx hy)
  obtain ⟨c, hc⟩ : ∃ c, c = ctz 64 (keyN L 8 p ^^^ keyN L 8 q) := ⟨_, rfl⟩
  rw [← hc] at h1 h2 h3 ⊢
  have hmod : ∀ m, (keyN L 8 p ^^^ keyN L 8 q) % 2 ^ m = 0 ↔ keyN L 8 p % 2 ^ m = keyN L 8 q % 2 ^ m := by
    intro m
    rw [Nat.xor_mod_two_pow, xor_zero]
  have h8 : ∀ j, j ≤ 8 → (keyN L 8 p % 2 ^ (8 * j) = keyN L 8 q % 2 ^ (8 * j) ↔ ∀ i, i < j → L.getD (p + i) 0 = L.getD (q + i) 0) := by
    intro j hj
    rw [Nat.pow_mul, show 2 ^ 8 = 256 from rfl]
    unfold keyN
    rw [leNat_mod, leNat_mod, List.take_take, List.take_take, Nat.min_eq_left hj]
    exact key_iff L j p q (by omega) (by omega)
  have hdown : ∀ m n, m ≤ n → keyN L 8 p % 2 ^ n = keyN L 8 q % 2 ^ n → keyN L 8 p % 2 ^ m = keyN L 8 q % 2 ^ m := by
    intro m n hmn h
    have hd : 2 ^ m ∣ 2 ^ n := Nat.pow_dvd_pow 2 hmn
    rw [← Nat.mod_mod_of_dvd (keyN L 8 p) hd, h, Nat.mod_mod_of_dvd _ hd]
  have g2 := (hmod c).1 h2
  have hlow := (h8 (c / 8) (by omega)).1 (hdown (8 * (c / 8)) c (by omega) g2)
  refine ⟨by omega, hlow, fun he => ?_⟩
  apply h3
  apply (hmod (c + 1)).2
  refine hdown (c + 1) (8 * (c / 8 + 1)) (by omega) ((h8 (c / 8 + 1) (by omega)).2 (fun i hi => ?_))
  by_cases e : i = c / 8
  · subst e; exact he
  · exact hlow i (by omega)
end Go.Proofs.YtfmjfgmbjdhogaaGreatDoor

namespace Go.Proofs.YtfmjfgmbjdhogaaGreatDoor
open Go.RowKit
set_option linter.unusedVariables false
set_option linter.unusedSimpArgs false

/-- Bytes from a place on are read. -/
def RdB (w : World) (g o : Nat) (L : List UInt8) (p n : Nat) : Prop := ∀ i, i < n → w.cell? ⟨g, o + i, none⟩ = some (.int .u8 ((L.getD (p + i) 0).toNat : Int))
theorem RdB.kept {w w' : World} {g o p n : Nat} {L : List UInt8} (h : RdB w g o L p n) (hk : Kept NoB w w') : RdB w' g o L p n := fun i hi => hk.cell (h i hi)
theorem RdB.drop {w : World} {g o p n : Nat} {L : List UInt8} (h : RdB w g o L p n) (k : Nat) : RdB w g (o + k) L (p + k) (n - k) := fun i hi => by
  have := h (k + i) (by omega)
  rw [show o + k + i = o + (k + i) by omega, show p + k + i = p + (k + i) by omega]
  exact this
theorem le8 (b0 b1 b2 b3 b4 b5 b6 b7 : UInt8) : ((Lib.leNat [b0, b1, b2, b3, b4, b5, b6, b7] : Nat) : Int) = (b0.toNat : Int) + (b1.toNat : Int) * 256 + (b2.toNat : Int) * 65536 + (b3.toNat : Int) * 16777216 + (b4.toNat : Int) * 4294967296 + (b5.toNat : Int) * 1099511627776 + (b6.toNat : Int) * 281474976710656 + (b7.toNat : Int) * 72057594037927936 := by
  simp only [Lib.leNat]
  omega
theorem le3 (b0 b1 b2 : UInt8) : ((Lib.leNat [b0, b1, b2] : Nat) : Int) = (b0.toNat : Int) + (b1.toNat : Int) * 256 + (b2.toNat : Int) * 65536 := by
  simp only [Lib.leNat]
  omega
theorem key8 (L : List UInt8) (p : Nat) (h : p + 8 ≤ L.length) : ((keyN L 8 p : Nat) : Int) = ((L.getD p 0).toNat : Int) + ((L.getD (p + 1) 0).toNat : Int) * 256 + ((L.getD (p + 2) 0).toNat : Int) * 65536 + ((L.getD (p + 3) 0).toNat : Int) * 16777216 + ((L.getD (p + 4) 0).toNat : Int) * 4294967296 + ((L.getD (p + 5) 0).toNat : Int) * 1099511627776 + ((L.getD (p + 6) 0).toNat : Int) * 281474976710656 + ((L.getD (p + 7) 0).toNat : Int) * 72057594037927936 := by
  have e : (L.drop p).take 8 = [L.getD p 0, L.getD (p + 1) 0, L.getD (p + 2) 0, L.getD (p + 3) 0, L.getD (p + 4) 0, L.getD (p + 5) 0, L.getD (p + 6) 0, L.getD (p + 7) 0] := by
    apply List.ext_getElem?
    intro j
    have hg : ∀ i, i < 8 → ((L.drop p).take 8)[i]? = some (L.getD (p + i) 0) := fun i hi => by
      rw [List.getElem?_take_of_lt hi, List.getElem?_drop, List.getElem?_eq_getElem (by omega)]
      simp [List.getD, show p + i < L.length by omega]
    match j with
    | 0 => exact hg 0 (by omega)
    | 1 => exact hg 1 (by omega)
    | 2 => exact hg 2 (by omega)
    | 3 => exact hg 3 (by omega)
    | 4 => exact hg 4 (by omega)
    | 5 => exact hg 5 (by omega)
    | 6 => exact hg 6 (by omega)
    | 7 => exact hg 7 (by omega)
    | j + 8 => rw [List.getElem?_eq_none (by simp; omega), List.getElem?_eq_none (by simp)]
  unfold keyN
  rw [e]
  exact le8 _ _ _ _ _ _ _ _
theorem key3 (L : List UInt8) (p : Nat) (h : p + 3 ≤ L.length) : ((keyN L 3 p : Nat) : Int) = ((L.getD p 0).toNat : Int) + ((L.getD (p + 1) 0).toNat : Int) * 256 + ((L.getD (p + 2) 0).toNat : Int) * 65536 := by
  have e : (L.drop p).take 3 = [L.getD p 0, L.getD (p + 1) 0, L.getD (p + 2) 0] := by
    apply List.ext_getElem?
    intro j
    have hg : ∀ i, i < 3 → ((L.drop p).take 3)[i]? = some (L.getD (p + i) 0) := fun i hi => by
      rw [List.getElem?_take_of_lt hi, List.getElem?_drop, List.getElem?_eq_getElem (by omega)]
      simp [List.getD, show p + i < L.length by omega]
    match j with
    | 0 => exact hg 0 (by omega)
    | 1 => exact hg 1 (by omega)
    | 2 => exact hg 2 (by omega)
    | j + 3 => rw [List.getElem?_eq_none (by simp; omega), List.getElem?_eq_none (by simp)]
  unfold keyN
  rw [e]
  exact le3 _ _ _
set_option maxRecDepth 100000 in
set_option maxHeartbeats 4000000 in
theorem word_any (g o n c p : Nat) (L : List UInt8) (w : World) (hr : RdB w g o L p n) (hn : 8 ≤ n) (hnm : n ≤ 9223372036854775807) (hp : p + 8 ≤ L.length) :
    Calls Tryz.prog 118 #[.slice (some ⟨g, o, none⟩) n c] w fun e w' => e = .returned (.int .u64 (keyN L 8 p : Int)) ∧ Kept NoB w w' := by
  have hk := key8 L p hp
  have c0 := hr 0 (by omega); have c1 := hr 1 (by omega); have c2 := hr 2 (by omega); have c3 := hr 3 (by omega)
  have c4 := hr 4 (by omega); have c5 := hr 5 (by omega); have c6 := hr 6 (by omega); have c7 := hr 7 (by omega)
  rw [Nat.add_zero, Nat.add_zero] at c0
  obtain ⟨K, hK⟩ : ∃ K : Int, K = (keyN L 8 p : Int) := ⟨_, rfl⟩
  rw [← hK] at hk ⊢
  have hb : ∀ i, (L.getD i 0).toNat < 256 := fun i => (L.getD i 0).toNat_lt
  have q0 := hb p; have q1 := hb (p + 1); have q2 := hb (p + 2); have q3 := hb (p + 3); have q4 := hb (p + 4); have q5 := hb (p + 5); have q6 := hb (p + 6); have q7 := hb (p + 7)
  generalize (L.getD p 0).toNat = b0 at *
  generalize (L.getD (p + 1) 0).toNat = b1 at *
  generalize (L.getD (p + 2) 0).toNat = b2 at *
  generalize (L.getD (p + 3) 0).toNat = b3 at *
  generalize (L.getD (p + 4) 0).toNat = b4 at *
  generalize (L.getD (p + 5) 0).toNat = b5 at *
  generalize (L.getD (p + 6) 0).toNat = b6 at *
  generalize (L.getD (p + 7) 0).toNat = b7 at *
  have HK := Lib.hid hk
  have r1 : (1 : Int) < (n : Int) := by omega
  have r2 : (2 : Int) < (n : Int) := by omega
  have r3 : (3 : Int) < (n : Int) := by omega
  have r4 : (4 : Int) < (n : Int) := by omega
  have r5 : (5 : Int) < (n : Int) := by omega
  have r6 : (6 : Int) < (n : Int) := by omega
  have r7 : (7 : Int) < (n : Int) := by omega
  have r0 : 0 < n := by omega
  clear hk hK hb hr hp
  go_enter Tryz.func118, Tryz.ntmps118
  go_wp2
  go_quiet (fail)
  go_wp2
  go_ret
  refine ⟨?_, (Kept.refl NoB w).drewN _⟩
  simp (disch := omega) only [u64_wrap_id, u64_or8, u64_or16, u64_or24, u64_or32, u64_or40, u64_or48, u64_or56]
  rw [HK.out]
  rfl
end Go.Proofs.YtfmjfgmbjdhogaaGreatDoor

namespace Go.Proofs.YtfmjfgmbjdhogaaGreatDoor
open Go.RowKit
set_option linter.unusedVariables false
set_option linter.unusedSimpArgs false

/-- The table lies as its initialiser laid it. -/
def DeB (w : World) : Prop := ∀ j, j < 64 → w.cell? ⟨1, j, none⟩ = some (.int .u8 ((Lib.deBruijn64tab.getD j 0 : Nat) : Int))
theorem DeB.kept {w w' : World} (h : DeB w) (hk : Kept NoB w w') : DeB w' := fun j hj => hk.cell (h j hj)
set_option maxRecDepth 100000 in
set_option maxHeartbeats 2000000 in
theorem tz_core (x k idx : Nat) (w : World) (hx0 : ((x : Int) == 0) = false)
    (key : IntKind.u64.wrap (bits BinOp.and IntKind.u64 (x : Int) (IntKind.u64.wrap (-(x : Int))) * 285870213051353865) / 288230376151711744 = (idx : Int))
    (hi : idx < 64) (hk : k < 64) (hcell : w.cell? ⟨1, idx, none⟩ = some (.int .u8 k)) :
    Calls Tryz.prog 180 #[.int .u64 x] w fun e w' => e = .returned (.int .i64 k) ∧ w' = w := by
  go_enter Tryz.func180, Tryz.ntmps180
  go_wp2_with (simp only [key])
  go_ret
  exact ⟨rfl, rfl⟩
theorem tz_key (x a : Nat) (hx : x < 18446744073709551616) (hx0 : x ≠ 0) (hlow : x &&& (18446744073709551616 - x) = a) :
    IntKind.u64.wrap (bits BinOp.and IntKind.u64 (x : Int) (IntKind.u64.wrap (-(x : Int))) * 285870213051353865) / 288230376151711744 = ((a * 285870213051353865 % 18446744073709551616 / 288230376151711744 : Nat) : Int) := by
  have e1 : IntKind.u64.wrap (-(x : Int)) = ((18446744073709551616 - x : Nat) : Int) := by rw [IntKind.wrap_u64]; omega
  rw [e1, bits_and_u64_nat x _ hx (by omega), hlow, IntKind.wrap_u64]
  omega
theorem tz_any (x : Nat) (w : World) (hx0 : x ≠ 0) (hx : x < 18446744073709551616) (hT : DeB w) :
    Calls Tryz.prog 180 #[.int .u64 x] w fun e w' => e = .returned (.int .i64 (Lib.ctz 64 x)) ∧ w' = w := by
  obtain ⟨hlow, hk⟩ := Lib.lowest_bit 64 x hx0 hx
  obtain ⟨hi, htab⟩ := Lib.deBruijn64_at _ hk
  refine tz_core x (Lib.ctz 64 x) _ w (by simp; omega) (tz_key x _ hx hx0 hlow) hi hk ?_
  rw [hT _ hi, htab]

set_option maxRecDepth 100000 in
set_option maxHeartbeats 4000000 in
theorem shared_any (g o1 n1 c1 p o2 n2 c2 q m : Nat) (L : List UInt8) (w : World) (hr1 : RdB w g o1 L p n1) (hr2 : RdB w g o2 L q n2) (h1 : m ≤ n1) (h2 : m ≤ n2) (hc1 : n1 ≤ c1) (hc2 : n2 ≤ c2) (hm : m ≤ 258) (hb1 : c1 ≤ 9223372036854775807) (hb2 : c2 ≤ 9223372036854775807) (hp : p + n1 = L.length) (hq : q + n2 = L.length) (hT : DeB w) :
    Calls Tryz.prog 166 #[.slice (some ⟨g, o1, none⟩) n1 c1, .slice (some ⟨g, o2, none⟩) n2 c2, .int .i64 (m : Int)] w fun e w' => e = .returned (.int .i64 (shr L p q m : Int)) ∧ Kept NoB w w' := by
  have HR1 := Lib.hid hr1; have HR2 := Lib.hid hr2; have HT := Lib.hid hT; have HP := Lib.hid hp; have HQ := Lib.hid hq
  clear hr1 hr2 hT hp hq
  have HEq := Lib.hid (fun k => shr_eq L m p q k)
  obtain ⟨R, hR⟩ : ∃ R, R = shr L p q m := ⟨_, rfl⟩
  rw [← hR] at HEq ⊢
  clear hR
  go_enter Tryz.func166, Tryz.ntmps166
  go_wp2
  go_loopw [7, 8] (fun v7 v8 wr => ∃ i : Nat, v7 = .int .i64 (i : Int) ∧ i ≤ m ∧ Hid (∀ j, j < i → L.getD (p + j) 0 = L.getD (q + j) 0) ∧ Hid (Kept NoB w wr)) (fun v7 _ _ => m - (intOf v7).toNat)
  case atStart => exact ⟨0, rfl, by omega, Lib.hid (fun j hj => by omega), Lib.hid (Kept.refl _ _)⟩
  case round =>
    obtain ⟨i, rfl, hi, HI, HK⟩ := hrel
    by_cases h8 : i + 8 ≤ m
    · have h8i : (i : Int) + 8 ≤ (m : Int) := by omega
      have HW1 := Lib.hid (fun W (hk : Kept NoB wr W) => word_any g (o1 + i) (n1 - i) (c1 - i) (p + i) L W ((HR1.out.kept (HK.out.trans hk)).drop i) (by omega) (by omega) (by have := HP.out; omega))
      have HW2 := Lib.hid (fun W (hk : Kept NoB wr W) => word_any g (o2 + i) (n2 - i) (c2 - i) (q + i) L W ((HR2.out.kept (HK.out.trans hk)).drop i) (by omega) (by omega) (by have := HQ.out; omega))
      have hk1 := key_iff L 8 (p + i) (q + i) (by have := HP.out; omega) (by have := HQ.out; omega)
      have hct := ctz_part L (p + i) (q + i) (by have := HP.out; omega) (by have := HQ.out; omega)
      have hl1 : keyN L 8 (p + i) < 2 ^ 64 := key_lt L 8 _
      have hl2 : keyN L 8 (q + i) < 2 ^ 64 := key_lt L 8 _
      have hxl := Nat.xor_lt_two_pow hl1 hl2
      have hxz := xor_zero (keyN L 8 (p + i)) (keyN L 8 (q + i))
      have hbx : bits .xor .u64 (keyN L 8 (p + i) : Int) (keyN L 8 (q + i) : Int) = ((keyN L 8 (p + i) ^^^ keyN L 8 (q + i) : Nat) : Int) := bits_xor_u64_nat _ _ hl1 hl2
      obtain ⟨k1, hk1e⟩ : ∃ k1, k1 = keyN L 8 (p + i) := ⟨_, rfl⟩
      obtain ⟨k2, hk2e⟩ : ∃ k2, k2 = keyN L 8 (q + i) := ⟨_, rfl⟩
      rw [← hk1e] at HW1; rw [← hk2e] at HW2
      rw [← hk1e, ← hk2e] at hk1 hct hxl hxz hbx
      obtain ⟨X, hX⟩ : ∃ X, X = k1 ^^^ k2 := ⟨_, rfl⟩
      rw [← hX] at hct hxl hxz hbx
      have HX := Lib.hid hxz; have HCt := Lib.hid hct; have HKi := Lib.hid hk1; have HXl := Lib.hid hxl
      have hin1 : (i : Int) ≤ (n1 : Int) := by omega
      have hin2 : (i : Int) ≤ (n2 : Int) := by omega
      have hic1 : ¬ c1 = i := by omega
      have hic2 : ¬ c2 = i := by omega
      have hw0 := Kept.refl NoB wr
      clear hk1 hct hl1 hl2 hxl hxz hk1e hk2e hX
      go_upto_region 3 with fail
      go_region_held3 (fun W => Kept NoB wr W) (first | assumption | exact Kept.drew (by assumption) | exact Kept.trans (by assumption) hkn)
        (first
          | (go_at_call 118; ((with_reducible refine (HW1.out _ (by assumption)).mono ?_); rintro e wn ⟨rfl, hkn⟩))
          | (go_at_call 118; ((with_reducible refine (HW2.out _ (by assumption)).mono ?_); rintro e wn ⟨rfl, hkn⟩)))
      all_goals (
        have HKn := Lib.hid (HK.out.trans (show Kept NoB wr wn by assumption))
        by_cases hx0 : X = 0
        · have y1 : ((X : Int) == 0) = true := by rw [hx0]; rfl
          have y2 : ((X : Int) != 0) = false := by rw [hx0]; rfl
          have HI2 : Hid (∀ j, j < i + 8 → L.getD (p + j) 0 = L.getD (q + j) 0) := Lib.hid (fun j hj => by
            by_cases hji : j < i
            · exact HI.out j hji
            · have := (HKi.out.1 (HX.out.1 hx0)) (j - i) (by omega)
              rw [show p + i + (j - i) = p + j by omega, show q + i + (j - i) = q + j by omega] at this
              exact this)
          clear hx0 hbx
          go_wp2
          go_roundw
          case rel => exact ⟨i + 8, by go_num, by omega, HI2, HKn⟩
          case measure => simp [intOf]; omega
        · have y1 : ((X : Int) == 0) = false := by simp; omega
          have y2 : ((X : Int) != 0) = true := by simp; omega
          obtain ⟨t1, t2, t3⟩ := HCt.out hx0
          have HTz := Lib.hid (tz_any X wn hx0 HXl.out (HT.out.kept HKn.out))
          obtain ⟨ct, hct⟩ : ∃ ct, ct = Lib.ctz 64 X := ⟨_, rfl⟩
          rw [← hct] at t1 t2 t3 HTz
          obtain ⟨cq, hcq⟩ : ∃ cq, cq = ct / 8 := ⟨_, rfl⟩
          rw [← hcq] at t1 t2 t3
          have hd1 : (ct : Int) / 8 = (cq : Int) := by omega
          have hd2 : (ct : Int).tdiv 8 = (cq : Int) := by rw [Int.tdiv_eq_ediv_of_nonneg (by omega)]; exact hd1
          have HF : Hid (R = i + cq) := Lib.hid (HEq.out (i + cq) (by omega) (fun j hj => by
            by_cases hji : j < i
            · exact HI.out j hji
            · have := t2 (j - i) (by omega)
              rw [show p + i + (j - i) = p + j by omega, show q + i + (j - i) = q + j by omega] at this
              exact this) (.inr (by rw [show p + (i + cq) = p + i + cq by omega, show q + (i + cq) = q + i + cq by omega]; exact t3)))
          clear hx0 hct hcq t2 t3 hbx
          go_wp2_with fail
          with_reducible refine HTz.out.mono ?_
          rintro e w5 ⟨rfl, rfl⟩
          go_wp2
          go_ret
          exact ⟨by rw [HF.out]; first | rfl | simp, HKn.out⟩)
    · have h8i : ¬ (i : Int) + 8 ≤ (m : Int) := by omega
      go_wp2
      go_loopw [7] (fun v7 wq => ∃ i : Nat, v7 = .int .i64 (i : Int) ∧ i ≤ m ∧ Hid (∀ j, j < i → L.getD (p + j) 0 = L.getD (q + j) 0) ∧ Hid (Kept NoB w wq)) (fun v7 _ => m - (intOf v7).toNat)
      case atStart => exact ⟨i, rfl, hi, HI, HK⟩
      case round =>
        clear h8i h8 hi HI HK
        obtain ⟨i, rfl, hi, HI, HK⟩ := hrel
        by_cases hlt : i < m
        · have hli : (i : Int) < (m : Int) := by omega
          have c1a := HK.out.cell (HR1.out i (by omega))
          have c2a := HK.out.cell (HR2.out i (by omega))
          have hs1 : (i : Int) < (n1 : Int) := by omega
          have hs2 : (i : Int) < (n2 : Int) := by omega
          obtain ⟨x, hx⟩ : ∃ x, x = L.getD (p + i) 0 := ⟨_, rfl⟩
          obtain ⟨y, hy⟩ : ∃ y, y = L.getD (q + i) 0 := ⟨_, rfl⟩
          rw [← hx] at c1a
          rw [← hy] at c2a
          by_cases hxy : x = y
          · have HI2 : Hid (∀ j, j < i + 1 → L.getD (p + j) 0 = L.getD (q + j) 0) := Lib.hid (fun j hj => by
              by_cases e : j = i
              · subst e; rw [← hx, ← hy]; exact hxy
              · exact HI.out j (by omega))
            clear hx hy
            subst hxy
            have hbb : ((x.toNat : Int) == (x.toNat : Int)) = true := by simp
            go_wp2_with fail
            go_quiet (fail)
            have HK2 := Lib.hid (HK.out.drewN nq)
            go_wp2
            go_roundw
            case rel => exact ⟨i + 1, by go_num, by omega, HI2, HK2⟩
            case measure => simp [intOf]; omega
          · have HF : Hid (R = i) := Lib.hid (HEq.out i (by omega) HI.out (.inr (by rw [← hx, ← hy]; exact hxy)))
            have hbb : ((x.toNat : Int) == (y.toNat : Int)) = false := by
              have : x.toNat ≠ y.toNat := fun e => hxy (UInt8.toNat_inj.1 e)
              simp; omega
            have hbn : ((x.toNat : Nat) == y.toNat) = false := by
              have : x.toNat ≠ y.toNat := fun e => hxy (UInt8.toNat_inj.1 e)
              simpa using this
            clear hx hy hxy
            go_wp2_with fail
            go_quiet (fail)
            have HK2 := Lib.hid (HK.out.drewN nq)
            go_wp2
            go_ret
            exact ⟨by rw [HF.out]; rfl, HK2.out⟩
        · have hie : i = m := by omega
          have HF : Hid (R = i) := Lib.hid (HEq.out i (by omega) HI.out (.inl hie))
          have hd : decide ((i : Int) < (m : Int)) = false := decide_eq_false (by omega)
          clear hie
          go_wp2_with fail
          go_quiet (fail)
          have HK2 := Lib.hid (HK.out.drewN nq)
          go_wp2
          go_ret
          exact ⟨by rw [HF.out]; rfl, HK2.out⟩
end Go.Proofs.YtfmjfgmbjdhogaaGreatDoor
