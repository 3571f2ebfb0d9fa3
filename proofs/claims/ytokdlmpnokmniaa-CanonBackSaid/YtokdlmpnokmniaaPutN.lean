/-
  Bits put behind bits: what one round of the writer does to the number that its bytes make. No Go in sight.
-/
import Derived.Test.YtokdlmpnokmniaaNum
namespace Go.Proofs.Ytokdlmpnokmniaa

theorem num_set_last (bs : List Int) (L : Nat) (hL : bs.length = L + 1) (u : Int) : num (bs.set L u) + 256 ^ L * (bs.getD L 0).toNat = num bs + 256 ^ L * u.toNat := by
  have e : bs = bs.take L ++ [bs.getD L 0] := by
    have h := List.take_succ_eq_append_getElem (l := bs) (i := L) (by omega)
    rw [List.take_of_length_le (by omega)] at h
    have g : bs.getD L 0 = bs[L] := by simp [List.getD, hL]
    rw [g]; exact h
  have hl : (bs.take L).length = L := by rw [List.length_take]; omega
  have e2 : bs.set L u = bs.take L ++ [u] := by
    conv => lhs; rw [e]
    rw [List.set_append_right _ _ (by omega), hl]
    simp
  have n1 : num bs = num (bs.take L) + 256 ^ L * (bs.getD L 0).toNat := by
    have := num_append (bs.take L) [bs.getD L 0]
    rw [← e, hl] at this
    simpa [num] using this
  have n2 : num (bs.set L u) = num (bs.take L) + 256 ^ L * u.toNat := by
    rw [e2, num_append, hl]; simp [num]
  omega

theorem top_lt (bs : List Int) (_h : AllB bs) (L q : Nat) (hL : bs.length = L + 1) (hn : num bs < 2 ^ (8 * L + q)) : (bs.getD L 0).toNat < 2 ^ q := by
  have e : bs = bs.take L ++ [bs.getD L 0] := by
    have h := List.take_succ_eq_append_getElem (l := bs) (i := L) (by omega)
    rw [List.take_of_length_le (by omega)] at h
    have g : bs.getD L 0 = bs[L] := by simp [List.getD, hL]
    rw [g]; exact h
  have hl : (bs.take L).length = L := by rw [List.length_take]; omega
  have n1 := num_append (bs.take L) [bs.getD L 0]
  rw [← e, hl, pow256] at n1
  simp only [num, Nat.mul_zero, Nat.add_zero] at n1
  rw [Nat.pow_add] at hn
  have : 2 ^ (8 * L) * (bs.getD L 0).toNat < 2 ^ (8 * L) * 2 ^ q := by omega
  exact Nat.lt_of_mul_lt_mul_left this

/-- The byte that a round leaves: the lowest bits of 'rest' above the q bits that are there. -/
def putByte (z : Int) (rest q : Nat) : Int := bits .or .u8 z (IntKind.u8.wrap (IntKind.u64.wrap ((rest : Int) * 2 ^ q)))

theorem putByte_eq (z : Int) (rest q : Nat) (hz : 0 ≤ z) (hq : q < 8) (hzq : z.toNat < 2 ^ q) :
    putByte z rest q = ((z.toNat + rest % 2 ^ (8 - q) * 2 ^ q : Nat) : Int) := by
  obtain ⟨y, rfl⟩ := Int.eq_ofNat_of_zero_le hz
  simp only [Int.toNat_natCast] at hzq ⊢
  unfold putByte
  have e1 : ((rest : Int) * 2 ^ q) = ((rest * 2 ^ q : Nat) : Int) := by push_cast; rfl
  have hp : 2 ^ q ≤ 2 ^ 7 := pow_le_pow2 (by omega)
  have e2 : IntKind.u8.wrap (IntKind.u64.wrap ((rest * 2 ^ q : Nat) : Int)) = ((rest * 2 ^ q % 256 : Nat) : Int) := by
    rw [IntKind.wrap_u64, IntKind.wrap_u8']
    omega
  have e3 : rest * 2 ^ q % 256 = rest % 2 ^ (8 - q) * 2 ^ q := by
    have : (256 : Nat) = 2 ^ (8 - q) * 2 ^ q := by rw [← Nat.pow_add]; rw [show 8 - q + q = 8 from by omega]
    rw [this, Nat.mul_mod_mul_right]
  rw [e1, e2, u8_or_nat y _ (by omega) (Nat.mod_lt _ (by decide)), e3, or_shift _ _ _ hzq]

theorem put_step (bs : List Int) (h : AllB bs) (L q rest left now : Nat) (hL : bs.length = L + 1) (hq : q < 8) (hn : num bs < 2 ^ (8 * L + q)) (hr : rest < 2 ^ left)
    (hnow : now = 8 - q ∧ 8 - q ≤ left ∨ now = left ∧ left ≤ 8 - q) :
    AllB (bs.set L (putByte (bs.getD L 0) rest q)) ∧ num (bs.set L (putByte (bs.getD L 0) rest q)) = num bs + rest % 2 ^ now * 2 ^ (8 * L + q) ∧
      num (bs.set L (putByte (bs.getD L 0) rest q)) < 2 ^ (8 * L + q + now) := by
  have hz := h.getD L
  have ht := top_lt bs h L q hL hn
  have hb := putByte_eq (bs.getD L 0) rest q hz.1 hq ht
  have hs := num_set_last bs L hL (putByte (bs.getD L 0) rest q)
  have e : rest % 2 ^ (8 - q) = rest % 2 ^ now := by
    rcases hnow with ⟨h1, h2⟩ | ⟨h1, h2⟩
    · rw [h1]
    · rw [h1, Nat.mod_eq_of_lt hr, Nat.mod_eq_of_lt (Nat.lt_of_lt_of_le hr (pow_le_pow2 h2))]
  rw [e] at hb
  generalize putByte (bs.getD L 0) rest q = u at hb hs ⊢
  generalize bs.getD L 0 = z at hb hs ht hz
  have hlt : rest % 2 ^ now < 2 ^ now := Nat.mod_lt _ (Nat.pow_pos (by decide))
  generalize rest % 2 ^ now = r at hb hlt ⊢
  have hu : u.toNat = z.toNat + r * 2 ^ q := by omega
  have hnum : num (bs.set L u) = num bs + r * 2 ^ (8 * L + q) := by
    rw [hu, pow256, Nat.mul_add] at hs
    have : 2 ^ (8 * L) * (r * 2 ^ q) = r * 2 ^ (8 * L + q) := by rw [Nat.pow_add, ← Nat.mul_assoc, Nat.mul_comm (2 ^ (8 * L)) r, Nat.mul_assoc]
    omega
  have hlt2 : z.toNat + r * 2 ^ q < 256 := by
    have h8 : 2 ^ now ≤ 2 ^ (8 - q) := pow_le_pow2 (by omega)
    have : (r + 1) * 2 ^ q ≤ 2 ^ (8 - q) * 2 ^ q := Nat.mul_le_mul_right _ (by omega)
    rw [← Nat.pow_add, show 8 - q + q = 8 from by omega, Nat.add_mul] at this
    omega
  refine ⟨?_, hnum, ?_⟩
  · intro b hb'
    rcases List.mem_or_eq_of_mem_set hb' with h1 | h1
    · exact h b h1
    · omega
  · rw [hnum, Nat.pow_add 2 (8 * L + q) now]
    have : (r + 1) * 2 ^ (8 * L + q) ≤ 2 ^ now * 2 ^ (8 * L + q) := Nat.mul_le_mul_right _ (by omega)
    rw [Nat.add_mul, Nat.mul_comm (2 ^ now)] at this
    omega

/-- The parts that were put, one behind the other. -/
theorem put_parts (V m now : Nat) : V % 2 ^ m + V / 2 ^ m % 2 ^ now * 2 ^ m = V % 2 ^ (m + now) := by
  rw [Nat.pow_add, Nat.mod_mul]
  rw [Nat.mul_comm (2 ^ m)]
theorem div_lt_left (V m n : Nat) (h : V < 2 ^ n) (hm : m ≤ n) : V / 2 ^ m < 2 ^ (n - m) := by
  rw [Nat.div_lt_iff_lt_mul (Nat.pow_pos (by decide)), ← Nat.pow_add, show n - m + m = n from by omega]
  exact h
theorem num_zero_last (bs : List Int) : num (bs ++ [0]) = num bs := by rw [num_append]; simp [num]
theorem AllB.snoc {bs : List Int} (h : AllB bs) (z : Int) (hz : 0 ≤ z ∧ z < 256) : AllB (bs ++ [z]) := by
  intro b hb
  rcases List.mem_append.1 hb with h1 | h1
  · exact h b h1
  · simp at h1; subst h1; exact hz
end Go.Proofs.Ytokdlmpnokmniaa
