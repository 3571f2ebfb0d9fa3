/-
  Checks sum up: of three rows of one length, one the sum of the two others and of noughts. No Go in sight.
-/
import Derived.Test.YtffoigacpnlkgaaCrcBN
namespace Go.Proofs.Ytffoigacpnlkgaa
set_option linter.unusedVariables false

theorem flip_xor (c : Nat) (h : c < 4294967296) : flip c = c ^^^ 4294967295 := by
  have e : (BitVec.ofNat 32 c ^^^ BitVec.allOnes 32) = ~~~ BitVec.ofNat 32 c := BitVec.xor_allOnes
  have e2 := congrArg BitVec.toNat e
  rw [BitVec.toNat_xor, BitVec.toNat_not, BitVec.toNat_ofNat, BitVec.toNat_allOnes, Nat.mod_eq_of_lt (show c < 2 ^ 32 from h)] at e2
  unfold flip
  exact e2.symm
theorem xor6 (F a b z : Nat) : (a ^^^ F) ^^^ (b ^^^ F) ^^^ (z ^^^ F) = (a ^^^ b ^^^ z) ^^^ F := by
  have e1 : (a ^^^ F) ^^^ (b ^^^ F) = a ^^^ b := by rw [xor4, Nat.xor_self, Nat.xor_zero]
  rw [e1, Nat.xor_assoc (a ^^^ b) z F]
/-- The sum of two rows, byte by byte. -/
def sumRow (a b : List Nat) : List Nat := List.zipWith (· ^^^ ·) a b
theorem sumRow_lt {a b : List Nat} (ha : ∀ x ∈ a, x < 256) (hb : ∀ x ∈ b, x < 256) : ∀ x ∈ sumRow a b, x < 256 := by
  induction a generalizing b with
  | nil => intro x hx; simp [sumRow] at hx
  | cons y t ih =>
    cases b with
    | nil => intro x hx; simp [sumRow] at hx
    | cons z u =>
      intro x hx
      simp only [sumRow, List.zipWith_cons_cons, List.mem_cons] at hx
      rcases hx with rfl | hx
      · exact Nat.xor_lt_two_pow (n := 8) (ha y (by simp)) (hb z (by simp))
      · exact ih (fun x h => ha x (by simp [h])) (fun x h => hb x (by simp [h])) x hx
theorem crc_sums (n : Nat) (a b : List Nat) (ha : a.length = n) (hb : b.length = n) (hla : ∀ x ∈ a, x < 256) (hlb : ∀ x ∈ b, x < 256) :
    crcOf 0 a ^^^ crcOf 0 b ^^^ crcOf 0 (List.replicate n 0) = crcOf 0 (sumRow a b) := by
  have hz : ∀ x ∈ List.replicate n 0, x < 256 := by intro x hx; rw [(List.mem_replicate.1 hx).2]; decide
  unfold crcOf
  rw [flip_xor _ (regOf_lt a _ (flip_lt 0) hla), flip_xor _ (regOf_lt b _ (flip_lt 0) hlb), flip_xor _ (regOf_lt _ _ (flip_lt 0) hz), flip_xor _ (regOf_lt _ _ (flip_lt 0) (sumRow_lt hla hlb)), xor6]
  congr 1
  have e1 := regOf_xor (flip 0) (flip 0) a b (by rw [ha, hb])
  have hl : (List.zipWith (· ^^^ ·) a b).length = n := by simp [ha, hb]
  have e2 := regOf_xor (flip 0 ^^^ flip 0) (flip 0) (List.zipWith (· ^^^ ·) a b) (List.replicate n 0) (by simp [hl])
  have e3 : List.zipWith (· ^^^ ·) (List.zipWith (· ^^^ ·) a b) (List.replicate n 0) = List.zipWith (· ^^^ ·) a b := by
    apply List.ext_getElem
    · simp [ha, hb]
    · intro i h1 h2; simp
  rw [e3, e1] at e2
  rw [← e2, Nat.xor_self, Nat.zero_xor]
  rfl
end Go.Proofs.Ytffoigacpnlkgaa
