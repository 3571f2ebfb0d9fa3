/-
  Bits turned round. No Go in sight.
-/
import Derived.Test.YtokdlmpnokmniaaNum
namespace Go.Proofs.Ytokdlmpnokmniaa

/-- The lowest n bits of v turned round, as the document tells them: one behind the other. -/
def revN : Nat → Nat → Nat
  | 0, _ => 0
  | n + 1, v => 2 * revN n v + v / 2 ^ n % 2

theorem revN_bit (n v i : Nat) : (revN n v).testBit i = (decide (i < n) && v.testBit (n - 1 - i)) := by
  induction n generalizing i with
  | zero => simp [revN]
  | succ n ih =>
    have hb : v / 2 ^ n % 2 < 2 := Nat.mod_lt _ (by decide)
    cases i with
    | zero =>
      have e : (v / 2 ^ n).testBit 0 = v.testBit n := by rw [Nat.testBit_div_two_pow]; simp
      rw [← show v.testBit n = v.testBit (n + 1 - 1 - 0) from by simp, ← e]
      simp only [revN, Nat.testBit_zero]
      have : (2 * revN n v + v / 2 ^ n % 2) % 2 = v / 2 ^ n % 2 := by omega
      rw [this]; simp
    | succ i =>
      have : (2 * revN n v + v / 2 ^ n % 2) / 2 = revN n v := by omega
      simp only [revN, Nat.testBit_succ, this, ih]
      have e : n - 1 - i = n + 1 - 1 - (i + 1) := by omega
      rw [e]; simp
theorem revN_lt (n v : Nat) : revN n v < 2 ^ n := by
  induction n with
  | zero => simp [revN]
  | succ n ih =>
    have hb : v / 2 ^ n % 2 < 2 := Nat.mod_lt _ (by decide)
    simp only [revN, Nat.pow_succ]; omega
theorem revN_revN (n v : Nat) (h : v < 2 ^ n) : revN n (revN n v) = v := by
  apply Nat.eq_of_testBit_eq
  intro i
  rw [revN_bit, revN_bit]
  by_cases hi : i < n
  · have e : n - 1 - (n - 1 - i) = i := by omega
    simp [hi, e]; omega
  · have : v.testBit i = false := Nat.testBit_lt_two_pow (Nat.lt_of_lt_of_le h (Nat.pow_le_pow_right (by decide) (by omega)))
    simp [hi, this]

/-- One step of the net: neighbours k bits apart change places. -/
def sw (k m v : Nat) : Nat := (v / 2 ^ k &&& m) ||| ((v &&& m) * 2 ^ k % 4294967296)
def swi (k m i : Nat) : Nat := if m.testBit i then i + k else i - k

theorem sw_bit (k m v i : Nat) (hi : i < 32) (hm : ∀ j, j < 32 → m.testBit j = false → k ≤ j ∧ m.testBit (j - k) = true) (hm2 : ∀ j, j < 32 → m.testBit j = true → j < k ∨ m.testBit (j - k) = false) :
    (sw k m v).testBit i = v.testBit (swi k m i) := by
  unfold sw swi
  rw [Nat.testBit_or, Nat.testBit_and, Nat.testBit_div_two_pow, show (4294967296 : Nat) = 2 ^ 32 from rfl, Nat.testBit_mod_two_pow, Nat.testBit_mul_two_pow, Nat.testBit_and]
  cases hb : m.testBit i with
  | true =>
    rcases hm2 i hi hb with h | h
    · have : ¬ k ≤ i := by omega
      simp [this, Nat.add_comm]
    · simp [h, Nat.add_comm]
  | false =>
    have h := hm i hi hb
    simp [h.1, h.2, hi]
theorem sw_lt (k m v : Nat) (hm : m < 4294967296) : sw k m v < 4294967296 := by
  unfold sw
  exact Nat.or_lt_two_pow (n := 32) (Nat.and_lt_two_pow _ hm) (Nat.mod_lt _ (by decide))

def net (v : Nat) : Nat :=
  let a := sw 8 16711935 (sw 4 252645135 (sw 2 858993459 (sw 1 1431655765 v)))
  a / 65536 ||| a * 65536 % 4294967296

theorem net_lt (v : Nat) : net v < 4294967296 := by
  have ha := sw_lt 8 16711935 (sw 4 252645135 (sw 2 858993459 (sw 1 1431655765 v))) (by decide)
  unfold net
  exact Nat.or_lt_two_pow (n := 32) (Nat.lt_of_le_of_lt (Nat.div_le_self _ _) ha) (Nat.mod_lt _ (by decide))

theorem mask_ok (k m : Nat) (h : ∀ j : Fin 32, (m.testBit j.val = false → k ≤ j.val ∧ m.testBit (j.val - k) = true) ∧ (m.testBit j.val = true → j.val < k ∨ m.testBit (j.val - k) = false)) :
    (∀ j, j < 32 → m.testBit j = false → k ≤ j ∧ m.testBit (j - k) = true) ∧ (∀ j, j < 32 → m.testBit j = true → j < k ∨ m.testBit (j - k) = false) :=
  ⟨fun j hj => (h ⟨j, hj⟩).1, fun j hj => (h ⟨j, hj⟩).2⟩

theorem net_bit (v i : Nat) (hi : i < 32) : (net v).testBit i = v.testBit (31 - i) := by
  have m1 := mask_ok 1 1431655765 (by decide +kernel)
  have m2 := mask_ok 2 858993459 (by decide +kernel)
  have m4 := mask_ok 4 252645135 (by decide +kernel)
  have m8 := mask_ok 8 16711935 (by decide +kernel)
  have ha := sw_lt 8 16711935 (sw 4 252645135 (sw 2 858993459 (sw 1 1431655765 v))) (by decide)
  have hs : ∀ j : Fin 32, swi 8 16711935 j.val < 32 ∧ swi 4 252645135 (swi 8 16711935 j.val) < 32 ∧ swi 2 858993459 (swi 4 252645135 (swi 8 16711935 j.val)) < 32 ∧
      swi 1 1431655765 (swi 2 858993459 (swi 4 252645135 (swi 8 16711935 j.val))) = (if j.val < 16 then 15 - j.val else 47 - j.val) := by decide +kernel
  have hbit : ∀ j, j < 32 → (sw 8 16711935 (sw 4 252645135 (sw 2 858993459 (sw 1 1431655765 v)))).testBit j = v.testBit (if j < 16 then 15 - j else 47 - j) := by
    intro j hj
    obtain ⟨s1, s2, s3, s4⟩ := hs ⟨j, hj⟩
    simp only at s1 s2 s3 s4
    rw [sw_bit 8 _ _ j hj m8.1 m8.2, sw_bit 4 _ _ _ s1 m4.1 m4.2, sw_bit 2 _ _ _ s2 m2.1 m2.2, sw_bit 1 _ _ _ s3 m1.1 m1.2, s4]
  unfold net
  simp only
  generalize sw 8 16711935 (sw 4 252645135 (sw 2 858993459 (sw 1 1431655765 v))) = a at ha hbit ⊢
  rw [Nat.testBit_or, show (65536 : Nat) = 2 ^ 16 from rfl, Nat.testBit_div_two_pow, show (4294967296 : Nat) = 2 ^ 32 from rfl, Nat.testBit_mod_two_pow, Nat.testBit_mul_two_pow]
  by_cases h16 : i < 16
  · have h1 := hbit (i + 16) (by omega)
    have hn : ¬ 16 ≤ i := by omega
    have e : (if i + 16 < 16 then 15 - (i + 16) else 47 - (i + 16)) = 31 - i := by split <;> omega
    rw [e] at h1
    simp [h1, hn]
  · have h1 : a.testBit (i + 16) = false := Nat.testBit_lt_two_pow (Nat.lt_of_lt_of_le ha (Nat.pow_le_pow_right (n := 2) (i := 32) (by decide) (by omega)))
    have h2 := hbit (i - 16) (by omega)
    have e : (if i - 16 < 16 then 15 - (i - 16) else 47 - (i - 16)) = 31 - i := by split <;> omega
    rw [e] at h2
    have hn : 16 ≤ i := by omega
    simp [h1, h2, hn, hi]

theorem net_rev (v n : Nat) (hn : n ≤ 32) : net v / 2 ^ (32 - n) = revN n v := by
  apply Nat.eq_of_testBit_eq
  intro i
  rw [revN_bit, Nat.testBit_div_two_pow]
  by_cases hi : i < n
  · have e1 : 32 - n + i = i + (32 - n) := Nat.add_comm _ _
    have e2 : 31 - (i + (32 - n)) = n - 1 - i := by omega
    first
      | rw [net_bit v (i + (32 - n)) (by omega), e2]; simp [hi]
      | rw [e1, net_bit v (i + (32 - n)) (by omega), e2]; simp [hi]
  · have h1 : (net v).testBit (i + (32 - n)) = false := Nat.testBit_lt_two_pow (Nat.lt_of_lt_of_le (net_lt v) (Nat.pow_le_pow_right (n := 2) (i := 32) (by decide) (by omega)))
    simp [hi, h1]

theorem sw_eq (k m v : Nat) (hv : v < 4294967296) (hm : m < 4294967296) :
    bits .or .u32 (bits .and .u32 ((v : Int) / ((2 ^ k : Nat) : Int)) (m : Int)) (bits .and .u32 (v : Int) (m : Int) * ((2 ^ k : Nat) : Int) % 4294967296) = ((sw k m v : Nat) : Int) := by
  have h1 : ((v : Int) / ((2 ^ k : Nat) : Int)) = ((v / 2 ^ k : Nat) : Int) := (Int.natCast_ediv v (2 ^ k)).symm
  have h2 : v / 2 ^ k < 4294967296 := Nat.lt_of_le_of_lt (Nat.div_le_self _ _) hv
  rw [h1, u32_and_nat _ _ h2 hm, u32_and_nat _ _ hv hm]
  have h3 : (((v &&& m : Nat) : Int) * ((2 ^ k : Nat) : Int) % 4294967296) = (((v &&& m) * 2 ^ k % 4294967296 : Nat) : Int) := by rw [Int.natCast_emod, Int.natCast_mul]; rfl
  rw [h3, u32_or_nat _ _ (Nat.and_lt_two_pow (n := 32) _ hm) (Nat.mod_lt _ (by decide))]
  rfl
end Go.Proofs.Ytokdlmpnokmniaa
