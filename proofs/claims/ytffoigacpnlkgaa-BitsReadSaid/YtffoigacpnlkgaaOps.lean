/-
  A slice of calls (three numbers each) that came in; what was put is there to be taken.
-/
import Derived.Test.YtffoigacpnlkgaaAwake1
import Derived.Test.YtffoigacpnlkgaaMask
import Derived.Test.YtffoigacpnlkgaaRd
namespace Go.Proofs.Ytffoigacpnlkgaa
open Go.RowKit
set_option linter.unusedVariables false

theorem cells_op : Try.prog.cellsOf 44 = 3 := by kernel_rfl
/-- The calls, each with its three numbers; where they lie. -/
def OpsAt (w : World) (ao : Option Addr) (len : Nat) (kd nn vv : Nat → Int) : Prop :=
  (ao = none → len = 0) ∧ ∀ b off, ao = some ⟨b, off, none⟩ → ∀ i, i < len →
    w.cell? ⟨b, off + i * 3, none⟩ = some (.int .i64 (kd i)) ∧ w.cell? ⟨b, off + i * 3 + 1, none⟩ = some (.int .i64 (nn i)) ∧ w.cell? ⟨b, off + i * 3 + 2, none⟩ = some (.int .u32 (vv i))

theorem choose3 {P : Nat → Int → Int → Int → Prop} (h : ∀ i, ∃ a b c, P i a b c) : ∃ f g k : Nat → Int, ∀ i, P i (f i) (g i) (k i) :=
  ⟨fun i => (h i).choose, fun i => (h i).choose_spec.choose, fun i => (h i).choose_spec.choose_spec.choose, fun i => (h i).choose_spec.choose_spec.choose_spec⟩

theorem ops_open {w : World} {v : Value} (h : Arg w 39 v) :
    ∃ (ao : Option Addr) (len cap : Nat) (kd nn vv : Nat → Int), v = .slice ao len cap ∧ len ≤ maxLen ∧ OpsAt w ao len kd nn vv ∧ (0 < len → ∃ b off, ao = some ⟨b, off, none⟩ ∧ b < w.heap.size) ∧
      ∀ i, (-9223372036854775808 ≤ kd i ∧ kd i ≤ 9223372036854775807) ∧ (-9223372036854775808 ≤ nn i ∧ nn i ≤ 9223372036854775807) ∧ 0 ≤ vv i ∧ vv i < 4294967296 := by
  obtain ⟨ao, len, cap, rfl, hl, hm, hn, hc⟩ := h.slice Try.underlying39
  rw [cells_op] at hc
  have key : ∀ i, ∃ a b c : Int, (∀ x, ao = some x → i < len → w.cell? (x.add (i * 3)) = some (.int .i64 a) ∧ w.cell? (x.add (i * 3 + 1)) = some (.int .i64 b) ∧ w.cell? (x.add (i * 3 + 2)) = some (.int .u32 c)) ∧
      (-9223372036854775808 ≤ a ∧ a ≤ 9223372036854775807) ∧ (-9223372036854775808 ≤ b ∧ b ≤ 9223372036854775807) ∧ 0 ≤ c ∧ c < 4294967296 := by
    intro i
    by_cases hi : i < len
    · cases ao with
      | none => exact ⟨0, 0, 0, (fun x hx => by cases hx), by decide, by decide, by decide⟩
      | some x =>
        obtain ⟨cs, hr, hcl, hcc⟩ := hc x rfl i hi
        obtain ⟨_, hf⟩ := hr.struct Try.underlying44
        match cs, hcl with
        | [c0, c1, c2], _ =>
          have i64c : Try.prog.cellsOf 3 = 1 := by kernel_rfl
          have u32c : Try.prog.cellsOf 26 = 1 := by kernel_rfl
          have r0 := hf 0 _ rfl
          have r1 := hf 1 _ rfl
          have r2 := hf 2 _ rfl
          simp [i64c, u32c] at r0 r1 r2
          obtain ⟨a, ea, wa⟩ := r0.int Try.underlying3
          obtain ⟨b, eb, wb⟩ := r1.int Try.underlying3
          obtain ⟨c, ec, wc⟩ := r2.int Try.underlying26
          simp at ea eb ec
          subst ea eb ec
          have u := u32_bd wc
          refine ⟨a, b, c, ?_, i64_bd wa, i64_bd wb, u.1, by omega⟩
          intro y hy _
          cases hy
          exact ⟨by simpa using hcc 0 (by simp), by simpa using hcc 1 (by simp), by simpa using hcc 2 (by simp)⟩
    · exact ⟨0, 0, 0, (fun x _ h => absurd h hi), by decide, by decide, by decide⟩
  obtain ⟨kd, nn, vv, hk⟩ := choose3 key
  refine ⟨ao, len, cap, kd, nn, vv, rfl, Nat.le_trans hl hm, ⟨fun h => (hn h).1, ?_⟩, ?_, fun i => (hk i).2⟩
  · intro b off he i hi
    have := (hk i).1 _ he hi
    rw [addr_add, addr_add, addr_add] at this
    exact this
  · intro h0
    cases ao with
    | none => have := (hn rfl).1; omega
    | some x =>
      have := ((hk 0).1 x rfl h0).1
      obtain ⟨b, off, spot⟩ := x
      have hs : spot = none := by
        have := World.cell?_spot this
        simpa [Addr.add] using this
      subst hs
      refine ⟨b, off, rfl, ?_⟩
      have hb := World.block_lt_of_cell? w _ this
      rw [addr_add] at hb
      exact hb
theorem OpsAt.below {w w' : World} {ao : Option Addr} {len : Nat} {kd nn vv : Nat → Int} (h : OpsAt w ao len kd nn vv) (hb : Below w.heap.size w w') : OpsAt w' ao len kd nn vv := by
  refine ⟨h.1, fun b off he i hi => ?_⟩
  obtain ⟨h1, h2, h3⟩ := h.2 b off he i hi
  have hlt := World.block_lt_of_cell? w _ h1
  exact ⟨(hb.cell hlt).trans h1, (hb.cell (p := ⟨b, off + i * 3 + 1, none⟩) hlt).trans h2, (hb.cell (p := ⟨b, off + i * 3 + 2, none⟩) hlt).trans h3⟩

/-- Where each number begins, when numbers of these widths are put one behind the other; the number that all of them make. -/
def posOf (n : Nat → Nat) : Nat → Nat
  | 0 => 0
  | i + 1 => posOf n i + n i
def allOf (n x : Nat → Nat) : Nat → Nat
  | 0 => 0
  | i + 1 => allOf n x i + x i % 2 ^ n i * 2 ^ posOf n i
theorem posOf_le (n : Nat → Nat) (i k : Nat) (h : i ≤ k) : posOf n i ≤ posOf n k := by
  induction k with
  | zero => have : i = 0 := by omega
            subst this; exact Nat.le_refl _
  | succ k ih =>
    by_cases hk : i = k + 1
    · subst hk; exact Nat.le_refl _
    · have := ih (by omega); simp only [posOf]; omega
theorem posOf_bd (n : Nat → Nat) (hn : ∀ i, n i ≤ 32) (k : Nat) : posOf n k ≤ 32 * k := by
  induction k with
  | zero => simp [posOf]
  | succ k ih => have := hn k; simp only [posOf]; omega
theorem allOf_lt (n x : Nat → Nat) (k : Nat) : allOf n x k < 2 ^ posOf n k := by
  induction k with
  | zero => simp [allOf, posOf]
  | succ k ih =>
    have h : x k % 2 ^ n k < 2 ^ n k := Nat.mod_lt _ (Nat.pow_pos (by decide))
    simp only [allOf, posOf, Nat.pow_add]
    have : (x k % 2 ^ n k + 1) * 2 ^ posOf n k ≤ 2 ^ n k * 2 ^ posOf n k := Nat.mul_le_mul_right _ (by omega)
    rw [Nat.add_mul, Nat.mul_comm (2 ^ n k)] at this
    omega
theorem allOf_split (n x : Nat → Nat) (i k : Nat) (h : i < k) : ∃ r, allOf n x k = allOf n x i + (x i % 2 ^ n i + r * 2 ^ n i) * 2 ^ posOf n i := by
  induction k with
  | zero => omega
  | succ k ih =>
    by_cases hk : i = k
    · subst hk; exact ⟨0, by simp [allOf]⟩
    · obtain ⟨r, hr⟩ := ih (by omega)
      have hp : posOf n (i + 1) ≤ posOf n k := posOf_le n (i + 1) k (by omega)
      obtain ⟨d, hd⟩ : ∃ d, posOf n k = posOf n (i + 1) + d := ⟨_, (Nat.add_sub_cancel' hp).symm⟩
      refine ⟨r + x k % 2 ^ n k * 2 ^ d, ?_⟩
      simp only [allOf, hr, hd, posOf, Nat.pow_add]
      rw [Nat.add_mul, Nat.add_mul, Nat.add_mul, Nat.add_mul]
      have : x k % 2 ^ n k * (2 ^ posOf n i * 2 ^ n i * 2 ^ d) = x k % 2 ^ n k * 2 ^ d * 2 ^ n i * 2 ^ posOf n i := by
        rw [Nat.mul_comm (2 ^ posOf n i) (2 ^ n i), Nat.mul_assoc (2 ^ n i), Nat.mul_comm (2 ^ posOf n i) (2 ^ d), ← Nat.mul_assoc, ← Nat.mul_assoc, Nat.mul_assoc (x k % 2 ^ n k), Nat.mul_comm (2 ^ n i) (2 ^ d), ← Nat.mul_assoc]
      omega
theorem allOf_take (n x : Nat → Nat) (i k : Nat) (h : i < k) : allOf n x k / 2 ^ posOf n i % 2 ^ n i = x i % 2 ^ n i := by
  obtain ⟨r, hr⟩ := allOf_split n x i k h
  rw [hr, Nat.add_mul_div_right _ _ (Nat.pow_pos (by decide)), Nat.div_eq_of_lt (allOf_lt n x i), Nat.zero_add, Nat.add_mul_mod_self_right, Nat.mod_mod]

set_option maxHeartbeats 1000000 in
theorem rev_all (v n : Nat) (w : World) (hv : v < 4294967296) (hn : n ≤ 32) : Calls Try.prog 37 #[.int .u32 v, .int .i64 n] w fun e w' => e = .returned (.int .u32 (revN n v : Nat)) ∧ w = w' := by
  by_cases h0 : n = 0
  · subst h0
    exact (rev_no (v : Int) ((0 : Nat) : Int) w (.inl (by decide))).mono fun _ _ h => ⟨by rw [h.1]; rfl, h.2⟩
  · exact rev_any v n w hv hn (by omega)
end Go.Proofs.Ytffoigacpnlkgaa
