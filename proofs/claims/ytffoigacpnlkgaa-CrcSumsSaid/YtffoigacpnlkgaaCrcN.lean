/-
  CRC-32 in numbers: one step, eight, a byte, a row of bytes; sums; no step takes a number to nought but nought. No Go in sight.
-/
import Derived.Test.YtffoigacpnlkgaaNum
namespace Go.Proofs.Ytffoigacpnlkgaa

def poly : Nat := 3988292384
def step1 (r : Nat) : Nat := if r % 2 = 1 then r / 2 ^^^ poly else r / 2
def steps : Nat → Nat → Nat
  | 0, r => r
  | n + 1, r => step1 (steps n r)
def upd (r b : Nat) : Nat := r / 256 ^^^ steps 8 (r % 256 ^^^ b)
def flip (c : Nat) : Nat := 4294967295 - c
def regOf (r : Nat) (bs : List Nat) : Nat := bs.foldl upd r
def crcOf (c : Nat) (bs : List Nat) : Nat := flip (regOf (flip c) bs)

theorem poly_lt : poly < 4294967296 := by decide
theorem step1_lt (r : Nat) (h : r < 4294967296) : step1 r < 4294967296 := by
  unfold step1
  split
  · exact Nat.xor_lt_two_pow (n := 32) (by omega) poly_lt
  · omega
theorem steps_lt (n r : Nat) (h : r < 4294967296) : steps n r < 4294967296 := by
  induction n with
  | zero => exact h
  | succ n ih => exact step1_lt _ ih
theorem xor_div2 (a b : Nat) : (a ^^^ b) / 2 = a / 2 ^^^ b / 2 := by
  have := Nat.shiftRight_xor_distrib (a := a) (b := b) (i := 1)
  simpa [Nat.shiftRight_eq_div_pow] using this
theorem xor_div256 (a b : Nat) : (a ^^^ b) / 256 = a / 256 ^^^ b / 256 := by
  have := Nat.shiftRight_xor_distrib (a := a) (b := b) (i := 8)
  simpa [Nat.shiftRight_eq_div_pow] using this
theorem xor_mod2 (a b : Nat) : (a ^^^ b) % 2 = (a % 2 + b % 2) % 2 := by
  have h := Nat.testBit_xor a b 0
  simp only [Nat.testBit_zero] at h
  rcases Nat.mod_two_eq_zero_or_one a with ha | ha <;> rcases Nat.mod_two_eq_zero_or_one b with hb | hb <;> rcases Nat.mod_two_eq_zero_or_one (a ^^^ b) with hc | hc <;> simp [ha, hb, hc] at h ⊢
theorem xor_mod256 (a b : Nat) : (a ^^^ b) % 256 = a % 256 ^^^ b % 256 := Nat.xor_mod_two_pow (n := 8)
theorem step1_xor (a b : Nat) : step1 (a ^^^ b) = step1 a ^^^ step1 b := by
  unfold step1
  rw [xor_mod2, xor_div2]
  rcases Nat.mod_two_eq_zero_or_one a with ha | ha <;> rcases Nat.mod_two_eq_zero_or_one b with hb | hb <;> simp only [ha, hb]
  · simp
  · simp [Nat.xor_assoc]
  · simp only [if_true, Nat.zero_ne_one, if_false]
    rw [Nat.xor_assoc, Nat.xor_comm (b / 2) poly, ← Nat.xor_assoc]
  · simp only [if_true]
    have : ∀ x y p : Nat, x ^^^ p ^^^ (y ^^^ p) = x ^^^ y := by
      intro x y p
      rw [Nat.xor_assoc, ← Nat.xor_assoc p y p, Nat.xor_comm p y, Nat.xor_assoc y p p, Nat.xor_self, Nat.xor_zero]
    rw [this]; simp
theorem steps_xor (n a b : Nat) : steps n (a ^^^ b) = steps n a ^^^ steps n b := by
  induction n with
  | zero => rfl
  | succ n ih => simp only [steps, ih, step1_xor]
theorem xor4 (a b c d : Nat) : a ^^^ b ^^^ (c ^^^ d) = a ^^^ c ^^^ (b ^^^ d) := by
  rw [Nat.xor_assoc, ← Nat.xor_assoc b c d, Nat.xor_comm b c, Nat.xor_assoc c b d, ← Nat.xor_assoc]
theorem upd_xor (r s x y : Nat) : upd (r ^^^ s) (x ^^^ y) = upd r x ^^^ upd s y := by
  unfold upd
  rw [xor_div256, xor_mod256, xor4 (r % 256), steps_xor, xor4]
theorem upd_lt (r b : Nat) (hr : r < 4294967296) (hb : b < 256) : upd r b < 4294967296 := by
  unfold upd
  have h1 : r % 256 ^^^ b < 256 := Nat.xor_lt_two_pow (n := 8) (Nat.mod_lt _ (by decide)) hb
  exact Nat.xor_lt_two_pow (n := 32) (by omega) (steps_lt 8 _ (by omega))
theorem regOf_lt (bs : List Nat) (r : Nat) (hr : r < 4294967296) (hb : ∀ b ∈ bs, b < 256) : regOf r bs < 4294967296 := by
  induction bs generalizing r with
  | nil => exact hr
  | cons b t ih => exact ih (upd r b) (upd_lt r b hr (hb b (by simp))) (fun x hx => hb x (by simp [hx]))
theorem regOf_append (r : Nat) (a b : List Nat) : regOf r (a ++ b) = regOf (regOf r a) b := List.foldl_append
theorem flip_flip (c : Nat) (h : c < 4294967296) : flip (flip c) = c := by unfold flip; omega
theorem flip_lt (c : Nat) : flip c < 4294967296 := by unfold flip; omega
theorem crcOf_lt (c : Nat) (bs : List Nat) : crcOf c bs < 4294967296 := flip_lt _
theorem crcOf_append (c : Nat) (a b : List Nat) (ha : ∀ x ∈ a, x < 256) : crcOf c (a ++ b) = crcOf (crcOf c a) b := by
  unfold crcOf
  rw [regOf_append, flip_flip _ (regOf_lt a _ (flip_lt _) ha)]
theorem crcOf_nil (c : Nat) (h : c < 4294967296) : crcOf c [] = c := flip_flip c h

/-- Eight steps of a number are those of its lowest byte, and the rest moved down. -/
theorem steps_even (n y : Nat) : steps n (y * 2 ^ n) = y := by
  induction n generalizing y with
  | zero => simp [steps]
  | succ n ih =>
    have : y * 2 ^ (n + 1) = (y * 2) * 2 ^ n := by rw [Nat.pow_succ, Nat.mul_comm (2 ^ n) 2, Nat.mul_assoc]
    simp only [steps, this, ih, step1]
    simp
theorem steps8 (x : Nat) : steps 8 x = x / 256 ^^^ steps 8 (x % 256) := by
  have h : x = x / 256 * 2 ^ 8 ^^^ x % 256 := by
    have h2 := Nat.two_pow_add_eq_or_of_lt (i := 8) (b := x % 256) (Nat.mod_lt _ (by decide)) (x / 256)
    have h3 : 2 ^ 8 * (x / 256) ^^^ x % 256 = 2 ^ 8 * (x / 256) + x % 256 := by
      apply Nat.eq_of_testBit_eq
      intro i
      rw [Nat.testBit_xor, Nat.testBit_two_pow_mul_add _ (Nat.mod_lt _ (by decide)), Nat.testBit_two_pow_mul]
      by_cases hi : i < 8
      · have : ¬ i ≥ 8 := by omega
        simp [hi, this]
      · have h5 : (x % 256).testBit i = false := Nat.testBit_lt_two_pow (Nat.lt_of_lt_of_le (Nat.mod_lt x (show 0 < 256 by decide)) (Nat.pow_le_pow_right (n := 2) (i := 8) (by decide) (by omega)))
        have : i ≥ 8 := by omega
        simp [hi, this, h5]
    rw [Nat.mul_comm, h3]
    omega
  conv => lhs; rw [h]
  rw [steps_xor, steps_even]
theorem upd_steps (r b : Nat) (hb : b < 256) : upd r b = steps 8 (r ^^^ b) := by
  rw [steps8 (r ^^^ b), xor_div256, xor_mod256, Nat.div_eq_of_lt hb, Nat.mod_eq_of_lt hb, Nat.xor_zero]
  rfl
end Go.Proofs.Ytffoigacpnlkgaa
