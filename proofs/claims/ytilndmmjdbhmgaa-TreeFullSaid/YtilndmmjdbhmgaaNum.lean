/-
  Numbers made of bytes, the lowest first; bits of them. No Go in sight.
-/
import Derived.WalkKit
import Derived.Laws.BitsAllLaws
namespace Go.Proofs.Ytilndmmjdbhmgaa

def num : List Int → Nat
  | [] => 0
  | b :: r => b.toNat + 256 * num r
def AllB (bs : List Int) : Prop := ∀ b ∈ bs, 0 ≤ b ∧ b < 256

theorem num_lt (bs : List Int) (h : AllB bs) : num bs < 256 ^ bs.length := by
  induction bs with
  | nil => simp [num]
  | cons b r ih =>
    have h1 := h b (by simp)
    have h2 := ih (fun x hx => h x (by simp [hx]))
    simp only [num, List.length_cons, Nat.pow_succ]
    omega
theorem num_append (a b : List Int) : num (a ++ b) = num a + 256 ^ a.length * num b := by
  induction a with
  | nil => simp [num]
  | cons x r ih => simp only [List.cons_append, num, ih, List.length_cons, Nat.pow_succ]; rw [Nat.mul_add, Nat.mul_comm (256 ^ r.length) 256, Nat.mul_assoc]; omega
theorem AllB.take {bs : List Int} (h : AllB bs) (n : Nat) : AllB (bs.take n) := fun b hb => h b (List.mem_of_mem_take hb)
theorem AllB.drop {bs : List Int} (h : AllB bs) (n : Nat) : AllB (bs.drop n) := fun b hb => h b (List.mem_of_mem_drop hb)
theorem AllB.getD {bs : List Int} (h : AllB bs) (i : Nat) : 0 ≤ bs.getD i 0 ∧ bs.getD i 0 < 256 := by
  by_cases hi : i < bs.length
  · have : bs.getD i 0 = bs[i] := by simp [List.getD, hi]
    rw [this]; exact h _ (List.getElem_mem hi)
  · have : bs.getD i 0 = 0 := by simp [List.getD, List.getElem?_eq_none (Nat.le_of_not_lt hi)]
    omega
theorem num_take_drop (bs : List Int) (h : AllB bs) (n : Nat) : num (bs.take n) = num bs % 256 ^ n ∧ num (bs.drop n) = num bs / 256 ^ n := by
  by_cases hn : n ≤ bs.length
  · have e : num bs = num (bs.take n) + 256 ^ n * num (bs.drop n) := by
      have := num_append (bs.take n) (bs.drop n)
      rw [List.take_append_drop, List.length_take, Nat.min_eq_left hn] at this
      exact this
    have l := num_lt _ (h.take n)
    rw [List.length_take, Nat.min_eq_left hn] at l
    rw [e]
    refine ⟨?_, ?_⟩
    · rw [Nat.add_mul_mod_self_left, Nat.mod_eq_of_lt l]
    · rw [Nat.add_mul_div_left _ _ (Nat.pow_pos (by decide)), Nat.div_eq_of_lt l, Nat.zero_add]
  · have l := num_lt _ h
    have l2 : num bs < 256 ^ n := Nat.lt_of_lt_of_le l (Nat.pow_le_pow_right (by decide) (by omega))
    rw [List.take_of_length_le (by omega), List.drop_of_length_le (by omega), Nat.mod_eq_of_lt l2, Nat.div_eq_of_lt l2]
    simp [num]
theorem num_take_succ (bs : List Int) (i : Nat) (hi : i < bs.length) : num (bs.take (i + 1)) = num (bs.take i) + (bs.getD i 0).toNat * 256 ^ i := by
  have e : bs.take (i + 1) = bs.take i ++ [bs.getD i 0] := by
    rw [List.take_succ_eq_append_getElem hi]; simp [List.getD, hi]
  rw [e, num_append, List.length_take, Nat.min_eq_left (by omega)]
  simp [num, Nat.mul_comm]

/-- 'a | b << s' where a has no more than s bits: a sum. -/
theorem or_shift (a b s : Nat) (h : a < 2 ^ s) : a ||| b * 2 ^ s = a + b * 2 ^ s := by
  rw [← Nat.shiftLeft_eq, Nat.or_comm, Nat.add_comm]
  exact (Nat.shiftLeft_add_eq_or_of_lt h b).symm

theorem pow256 (i : Nat) : 256 ^ i = 2 ^ (8 * i) := by rw [Nat.pow_mul]

/-- What is told by k bits from bit 'at' on. -/
def bitsAt (bs : List Int) (p k : Nat) : Nat := num bs / 2 ^ p % 2 ^ k

/-- Of the bytes from f on the first m make up the bits from 8 f + s on, if these are no more than there. -/
theorem bitsAt_window (bs : List Int) (h : AllB bs) (f s k m : Nat) (hm : s + k ≤ 8 * m) :
    num ((bs.drop f).take m) / 2 ^ s % 2 ^ k = bitsAt bs (8 * f + s) k := by
  unfold bitsAt
  rw [(num_take_drop (bs.drop f) (h.drop f) m).1, (num_take_drop bs h f).2, pow256, pow256, Nat.pow_add, ← Nat.div_div_eq_div_mul]
  generalize num bs / 2 ^ (8 * f) = x
  have e : 2 ^ (8 * m) = 2 ^ s * 2 ^ (8 * m - s) := by rw [← Nat.pow_add]; congr 1; omega
  rw [e, Nat.mod_mul_right_div_self]
  exact Nat.mod_mod_of_dvd _ (Nat.pow_dvd_pow 2 (by omega))
theorem bitsAt_lt (bs : List Int) (p k : Nat) : bitsAt bs p k < 2 ^ k := Nat.mod_lt _ (Nat.pow_pos (by decide))

theorem pow_le_pow2 {a b : Nat} (h : a ≤ b) : 2 ^ a ≤ 2 ^ b := Nat.pow_le_pow_right (by decide) h

/-- One more byte of a window of at most eight. -/
theorem or_step (bs : List Int) (h : AllB bs) (f j : Nat) (hj : j < 8) (hi : f + j < bs.length) (z : Int) (hz : bs.getD (f + j) 0 = z) :
    bits .or .u64 (num ((bs.drop f).take j) : Nat) (IntKind.u64.wrap (z * 2 ^ (8 * j))) = (num ((bs.drop f).take (j + 1)) : Nat) := by
  have hg := h.getD (f + j)
  rw [hz] at hg
  have hl := num_lt _ ((h.drop f).take j)
  have hlen : ((bs.drop f).take j).length = j := by rw [List.length_take, List.length_drop]; omega
  rw [hlen, pow256] at hl
  have hs := num_take_succ (bs.drop f) j (by rw [List.length_drop]; omega)
  have hd : (bs.drop f).getD j 0 = z := by rw [← hz]; simp [List.getD, List.getElem?_drop]
  rw [hd, pow256] at hs
  obtain ⟨y, rfl⟩ := Int.eq_ofNat_of_zero_le hg.1
  have hy : y < 256 := by omega
  have hb1 : 2 ^ (8 * j) ≤ 2 ^ 56 := pow_le_pow2 (by omega)
  have hb2 : y * 2 ^ (8 * j) ≤ 255 * 2 ^ 56 := Nat.mul_le_mul (by omega) hb1
  have hw : IntKind.u64.wrap ((y : Int) * 2 ^ (8 * j)) = ((y * 2 ^ (8 * j) : Nat) : Int) := by
    rw [IntKind.wrap_u64]
    have e : ((y : Int) * 2 ^ (8 * j)) = ((y * 2 ^ (8 * j) : Nat) : Int) := by push_cast; rfl
    rw [e]
    omega
  rw [hw, hs]
  have := u64_or_nat (num ((bs.drop f).take j)) (y * 2 ^ (8 * j)) (by omega) (by omega)
  rw [this, or_shift _ _ _ hl]
  simp

/-- 'v >> t & (1 << k - 1)', cut to 32 bits. -/
theorem and_mask (x t k : Nat) (hx : x < 18446744073709551616) (hk : k ≤ 32) :
    bits .and .u64 ((x : Int) / 2 ^ t) (IntKind.u64.wrap (2 ^ k - 1)) % 4294967296 = ((x / 2 ^ t % 2 ^ k : Nat) : Int) := by
  have h1 : (1 : Nat) ≤ 2 ^ k := Nat.one_le_two_pow
  have h2 : 2 ^ k ≤ 2 ^ 32 := pow_le_pow2 hk
  have hw : IntKind.u64.wrap ((2 : Int) ^ k - 1) = ((2 ^ k - 1 : Nat) : Int) := by
    rw [IntKind.wrap_u64]
    have e : ((2 : Int) ^ k - 1) = ((2 ^ k - 1 : Nat) : Int) := by rw [Int.natCast_sub h1]; push_cast; rfl
    rw [e]
    omega
  have hd : ((x : Int) / 2 ^ t) = ((x / 2 ^ t : Nat) : Int) := by push_cast; rfl
  have hq : x / 2 ^ t ≤ x := Nat.div_le_self _ _
  rw [hw, hd, u64_and_nat _ _ (by omega) (by omega), Nat.and_two_pow_sub_one_eq_mod]
  have : x / 2 ^ t % 2 ^ k < 2 ^ k := Nat.mod_lt _ (by omega)
  omega
theorem wrap_pow (k : Nat) (hk : k ≤ 32) : IntKind.u64.wrap ((2 : Int) ^ k) = 2 ^ k := by
  have h2 : 2 ^ k ≤ 2 ^ 32 := pow_le_pow2 hk
  rw [IntKind.wrap_u64]
  have e : ((2 : Int) ^ k) = ((2 ^ k : Nat) : Int) := by push_cast; rfl
  rw [e]
  generalize 2 ^ k = y at h2 ⊢
  omega
theorem num_take_lt (bs : List Int) (h : AllB bs) (j : Nat) (hj : j ≤ 8) : num (bs.take j) < 18446744073709551616 := by
  have hl := num_lt _ (h.take j)
  have : (bs.take j).length ≤ j := List.length_take_le _ _
  have h3 : 256 ^ (bs.take j).length ≤ 256 ^ 8 := Nat.pow_le_pow_right (by decide) (by omega)
  omega
end Go.Proofs.Ytilndmmjdbhmgaa
