/-
  One bit that is turned, or two, is another check. No Go in sight.
-/
import Derived.Test.YtffoigacpnlkgaaCrcN
namespace Go.Proofs.Ytffoigacpnlkgaa
set_option linter.unusedVariables false

theorem step1_inj0 (r : Nat) (h : r < 4294967296) (h0 : step1 r = 0) : r = 0 := by
  unfold step1 at h0
  split at h0
  · exfalso
    have e : r / 2 = poly := by
      have := congrArg (· ^^^ poly) h0
      simpa [Nat.xor_assoc] using this
    unfold poly at e
    omega
  · omega
theorem steps_inj0 (n r : Nat) (h : r < 4294967296) (h0 : steps n r = 0) : r = 0 := by
  induction n with
  | zero => exact h0
  | succ n ih => exact ih (step1_inj0 _ (steps_lt n r h) h0)
theorem steps_add (m n r : Nat) : steps (m + n) r = steps m (steps n r) := by
  induction m with
  | zero => simp [steps]
  | succ m ih => rw [Nat.add_right_comm]; simp only [steps, ih]
theorem xor_eq0 (a b : Nat) : a ^^^ b = 0 ↔ a = b := by
  constructor
  · intro h
    have := congrArg (· ^^^ b) h
    simpa [Nat.xor_assoc] using this
  · intro h; subst h; exact Nat.xor_self a

/-- A row of noughts but for one byte; all noughts. -/
theorem upd_zero (r : Nat) : upd r 0 = steps 8 r := by rw [upd_steps r 0 (by decide), Nat.xor_zero]
theorem regOf_xor (r s : Nat) : ∀ (a b : List Nat), a.length = b.length → regOf (r ^^^ s) (List.zipWith (· ^^^ ·) a b) = regOf r a ^^^ regOf s b := by
  intro a
  induction a generalizing r s with
  | nil => intro b hb; cases b with
    | nil => rfl
    | cons => simp at hb
  | cons x t ih =>
    intro b hb
    cases b with
    | nil => simp at hb
    | cons y u =>
      simp only [List.zipWith_cons_cons, regOf, List.foldl_cons]
      rw [upd_xor]
      exact ih (upd r x) (upd s y) u (by simpa using hb)

/-- What the bit at place p of a row of n bytes makes of the register, from nought on. -/
theorem regOf_zeros (r n : Nat) : regOf r (List.replicate n 0) = steps (8 * n) r := by
  induction n generalizing r with
  | zero => rfl
  | succ n ih =>
    simp only [List.replicate_succ, regOf, List.foldl_cons]
    rw [upd_zero]
    have := ih (steps 8 r)
    unfold regOf at this
    rw [this, ← steps_add, Nat.mul_succ]
theorem regOf_zero (n : Nat) : regOf 0 (List.replicate n 0) = 0 := by
  rw [regOf_zeros]
  have : ∀ k, steps k 0 = 0 := by
    intro k
    induction k with
    | zero => rfl
    | succ k ih => simp [steps, ih, step1]
  exact this _

/-- A row of n bytes that are noughts but for bit p. -/
def bitRow (n p : Nat) : List Nat := (List.replicate n 0).set (p / 8) (2 ^ (p % 8))
theorem steps_pow (k : Nat) (h : k ≤ 8) : steps 8 (2 ^ k) = steps (8 - k) 1 := by
  have e : 8 = (8 - k) + k := by omega
  conv => lhs; rw [e]
  rw [steps_add]
  have := steps_even k 1
  rw [Nat.one_mul] at this
  rw [this]
theorem regOf_bitRow (n p : Nat) (h : p < 8 * n) : regOf 0 (bitRow n p) = steps (8 * n - p) 1 := by
  have hlt : p / 8 < n := by omega
  have e : bitRow n p = List.replicate (p / 8) 0 ++ (2 ^ (p % 8) :: List.replicate (n - p / 8 - 1) 0) := by
    unfold bitRow
    have e1 : List.replicate n (0 : Nat) = List.replicate (p / 8) 0 ++ List.replicate (n - p / 8) 0 := by rw [List.replicate_append_replicate]; congr 1; omega
    rw [e1, List.set_append_right _ _ (by simp), List.length_replicate, Nat.sub_self]
    have e2 : n - p / 8 = (n - p / 8 - 1) + 1 := by omega
    conv => lhs; rw [e2]
    rw [List.replicate_succ, List.set_cons_zero]
  have hb : 2 ^ (p % 8) < 256 := Nat.lt_of_lt_of_le (Nat.pow_lt_pow_right (by decide) (Nat.mod_lt p (by decide : 0 < 8))) (by decide)
  rw [e, regOf_append, regOf_zero]
  show regOf (upd 0 (2 ^ (p % 8))) (List.replicate (n - p / 8 - 1) 0) = _
  rw [regOf_zeros, upd_steps 0 _ hb, Nat.zero_xor, steps_pow _ (by omega), ← steps_add]
  congr 1
  omega

/-- No two bits so near one another undo each other: reckoned, step by step. -/
def nearOk : Nat → Nat → Bool
  | 0, _ => true
  | k + 1, r => step1 r != 1 && nearOk k (step1 r)
theorem nearOk_sound (k r : Nat) (h : nearOk k r = true) : ∀ d, 1 ≤ d → d ≤ k → steps d r ≠ 1 := by
  induction k generalizing r with
  | zero => intro d h1 h2; omega
  | succ k ih =>
    intro d h1 h2
    simp only [nearOk, Bool.and_eq_true, bne_iff_ne] at h
    by_cases hd : d = 1
    · subst hd; exact h.1
    · have := ih (step1 r) h.2 (d - 1) (by omega) (by omega)
      have e : steps d r = steps (d - 1) (step1 r) := by
        have := steps_add (d - 1) 1 r
        rw [Nat.sub_add_cancel h1] at this
        exact this
      rw [e]; exact this
theorem near800 : nearOk 800 1 = true := by decide +kernel
theorem steps_near (m p : Nat) (h : p < m) (h2 : m ≤ 800 + p) : steps m 1 ≠ steps p 1 := by
  intro e
  have h1 : m = p + (m - p) := by omega
  rw [h1, steps_add] at e
  have hx : steps p (steps (m - p) 1 ^^^ 1) = 0 := by rw [steps_xor, e, Nat.xor_self]
  have h0 := steps_inj0 p _ (Nat.xor_lt_two_pow (n := 32) (steps_lt _ 1 (by decide)) (by decide)) hx
  rw [xor_eq0] at h0
  exact nearOk_sound 800 1 near800 (m - p) (by omega) (by omega) h0

/-- The check of a row with bit p turned. -/
def turned (l : List Nat) (p : Nat) : List Nat := l.set (p / 8) (l.getD (p / 8) 0 ^^^ 2 ^ (p % 8))
theorem turned_length (l : List Nat) (p : Nat) : (turned l p).length = l.length := List.length_set
theorem turned_zip (l : List Nat) (p : Nat) (h : p < 8 * l.length) : turned l p = List.zipWith (· ^^^ ·) l (bitRow l.length p) := by
  apply List.ext_getElem
  · simp [turned, bitRow]
  · intro i h1 h2
    simp only [turned, bitRow, List.getElem_zipWith, List.getElem_set, List.getElem_replicate]
    by_cases hi : p / 8 = i
    · have hil : i < l.length := by simpa [turned] using h1
      subst hi
      simp [List.getD, hil]
    · simp [hi]
theorem crc_turned (l : List Nat) (p : Nat) (h : p < 8 * l.length) (hl : ∀ x ∈ l, x < 256) : regOf (flip 0) (turned l p) = regOf (flip 0) l ^^^ steps (8 * l.length - p) 1 := by
  have e := regOf_xor (flip 0) 0 l (bitRow l.length p) (by simp [bitRow])
  rw [Nat.xor_zero, ← turned_zip l p h, regOf_bitRow _ _ h] at e
  exact e
theorem turned_lt (l : List Nat) (p : Nat) (hl : ∀ x ∈ l, x < 256) : ∀ x ∈ turned l p, x < 256 := by
  intro x hx
  rcases List.mem_or_eq_of_mem_set hx with h | h
  · exact hl x h
  · subst h
    have h1 : l.getD (p / 8) 0 < 256 := by
      by_cases hi : p / 8 < l.length
      · have : l.getD (p / 8) 0 = l[p / 8] := by simp [List.getD, hi]
        rw [this]; exact hl _ (List.getElem_mem hi)
      · have : l.getD (p / 8) 0 = 0 := by simp [List.getD, List.getElem?_eq_none (Nat.le_of_not_lt hi)]
        omega
    have hb : 2 ^ (p % 8) < 256 := Nat.lt_of_lt_of_le (Nat.pow_lt_pow_right (by decide) (Nat.mod_lt p (by decide : 0 < 8))) (by decide)
    exact Nat.xor_lt_two_pow (n := 8) h1 hb
theorem crc_flip (a b : List Nat) (ha : ∀ x ∈ a, x < 256) (hb : ∀ x ∈ b, x < 256) : crcOf 0 a = crcOf 0 b ↔ regOf (flip 0) a = regOf (flip 0) b := by
  have h1 := regOf_lt a (flip 0) (flip_lt 0) ha
  have h2 := regOf_lt b (flip 0) (flip_lt 0) hb
  unfold crcOf
  unfold flip at *
  omega
/-- One bit, two bits. -/
theorem crc_one (l : List Nat) (p : Nat) (h : p < 8 * l.length) (hl : ∀ x ∈ l, x < 256) : crcOf 0 (turned l p) ≠ crcOf 0 l := by
  rw [Ne, crc_flip _ _ (turned_lt l p hl) hl, crc_turned l p h hl]
  intro e
  have : steps (8 * l.length - p) 1 = 0 := by
    have := congrArg (regOf (flip 0) l ^^^ ·) e
    simpa [← Nat.xor_assoc] using this
  have := steps_inj0 _ 1 (by decide) this
  omega
theorem crc_two (l : List Nat) (p q : Nat) (h : p < 8 * l.length) (h2 : q < 8 * l.length) (hl : ∀ x ∈ l, x < 256) (h100 : l.length ≤ 100) : crcOf 0 (turned (turned l p) q) = crcOf 0 l ↔ p = q := by
  rw [crc_flip _ _ (turned_lt _ q (turned_lt l p hl)) hl, crc_turned _ q (by rw [turned_length]; exact h2) (turned_lt l p hl), crc_turned l p h hl, turned_length]
  constructor
  · intro e
    have e2 : steps (8 * l.length - p) 1 ^^^ steps (8 * l.length - q) 1 = 0 := by
      have := congrArg (regOf (flip 0) l ^^^ ·) e
      simpa [← Nat.xor_assoc] using this
    rw [xor_eq0] at e2
    by_cases hpq : p = q
    · exact hpq
    · exfalso
      rcases Nat.lt_or_gt_of_ne hpq with hlt | hlt
      · exact steps_near (8 * l.length - p) (8 * l.length - q) (by omega) (by omega) e2
      · exact steps_near (8 * l.length - q) (8 * l.length - p) (by omega) (by omega) e2.symm
  · intro e
    subst e
    rw [Nat.xor_assoc, Nat.xor_self, Nat.xor_zero]
end Go.Proofs.Ytffoigacpnlkgaa
