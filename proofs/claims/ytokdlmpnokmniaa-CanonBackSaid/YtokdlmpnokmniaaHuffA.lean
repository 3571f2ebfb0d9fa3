/-
  huff.Cost, huff.Kraft, the document's Kraft.
-/
import Derived.Test.YtokdlmpnokmniaaInts
namespace Go.Proofs.Ytokdlmpnokmniaa
open Go.RowKit
set_option linter.unusedVariables false
set_option linter.unusedSimpArgs false

/-- How much of all codes one of this length takes up. -/
def kpart (z : Int) : Int := if 1 ≤ z ∧ z ≤ 15 then ((2 ^ (15 - z.toNat) : Nat) : Int) else 0
def kraftL : List Int → Int
  | [] => 0
  | z :: r => kpart z + kraftL r
def costL : List Int → List Int → Int
  | x :: r, y :: s => x * y + costL r s
  | _, _ => 0

theorem kpart_bd (z : Int) : 0 ≤ kpart z ∧ kpart z ≤ 32768 := by
  unfold kpart
  split
  · have h := Nat.pow_le_pow_right (n := 2) (by decide) (show 15 - z.toNat ≤ 15 by omega)
    obtain ⟨p, hp⟩ : ∃ p, p = 2 ^ (15 - z.toNat) := ⟨_, rfl⟩
    rw [← hp] at h ⊢
    clear hp
    constructor <;> omega
  · decide
theorem kraft_bd : ∀ l : List Int, 0 ≤ kraftL l ∧ kraftL l ≤ 32768 * (l.length : Int)
  | [] => by simp [kraftL]
  | z :: r => by
    have h1 := kpart_bd z
    have h2 := kraft_bd r
    simp only [kraftL, List.length_cons]
    constructor <;> omega
theorem kraft_append : ∀ a b : List Int, kraftL (a ++ b) = kraftL a + kraftL b
  | [], b => by simp [kraftL]
  | z :: r, b => by simp only [List.cons_append, kraftL, kraft_append r b]; omega
theorem kraft_step (zs : List Int) (j : Nat) (h : j < zs.length) : kraftL (zs.drop j) = kpart (zs.getD j 0) + kraftL (zs.drop (j + 1)) := by
  rw [List.drop_eq_getElem_cons h]; simp [kraftL, List.getD, h]
theorem kraft_end (zs : List Int) (j : Nat) (h : zs.length ≤ j) : kraftL (zs.drop j) = 0 := by
  rw [List.drop_of_length_le h]; rfl
theorem kraft_room (zs : List Int) (j : Nat) (acc : Int) (h : acc + kraftL (zs.drop j) = kraftL zs) (hl : zs.length ≤ 1000000000) : acc ≤ 40000000000000 := by
  have h1 := kraft_bd (zs.drop j)
  have h2 := kraft_bd zs
  omega

theorem kpart_div : ∀ k : Nat, 1 ≤ k → k ≤ 15 → (32768 : Int) / 2 ^ k = kpart (k : Int) := by
  intro k h1 h2
  have : k = 1 ∨ k = 2 ∨ k = 3 ∨ k = 4 ∨ k = 5 ∨ k = 6 ∨ k = 7 ∨ k = 8 ∨ k = 9 ∨ k = 10 ∨ k = 11 ∨ k = 12 ∨ k = 13 ∨ k = 14 ∨ k = 15 := by omega
  rcases this with rfl | rfl | rfl | rfl | rfl | rfl | rfl | rfl | rfl | rfl | rfl | rfl | rfl | rfl | rfl <;> decide
theorem kpart_pow : ∀ k : Nat, 1 ≤ k → k ≤ 15 → (2 : Int) ^ (15 - k) = kpart (k : Int) := by
  intro k h1 h2
  have : k = 1 ∨ k = 2 ∨ k = 3 ∨ k = 4 ∨ k = 5 ∨ k = 6 ∨ k = 7 ∨ k = 8 ∨ k = 9 ∨ k = 10 ∨ k = 11 ∨ k = 12 ∨ k = 13 ∨ k = 14 ∨ k = 15 := by omega
  rcases this with rfl | rfl | rfl | rfl | rfl | rfl | rfl | rfl | rfl | rfl | rfl | rfl | rfl | rfl | rfl <;> decide
theorem kpart_out (z : Int) (h : ¬ (1 ≤ z ∧ z ≤ 15)) : kpart z = 0 := if_neg h

set_option maxRecDepth 20000 in
set_option maxHeartbeats 1000000 in
theorem rkraft_calls (ao : Option Addr) (cap B : Nat) (zs : List Int) (w : World) (hr : RdI w B ao zs) (hz : AllI zs) (hl : zs.length ≤ 1000000000) :
    Calls Try.prog 31 #[.slice ao zs.length cap] w fun e w' => e = .returned (.int .i64 (kraftL zs)) ∧ Kept NoB w w' := by
  have HR := Lib.hid hr
  have HZ := Lib.hid hz
  clear hr hz
  go_enter Try.func31, Try.ntmps31
  go_wp2
  go_loopw [3, 4] (fun v2 v8 wr => ∃ (acc : Int) (j : Nat), v2 = .int .i64 acc ∧ v8 = .int .i64 (j : Int) ∧ j ≤ zs.length ∧ 0 ≤ acc ∧ Hid (acc + kraftL (zs.drop j) = kraftL zs) ∧ Hid (Kept NoB w wr)) (fun _ v8 _ => zs.length - (intOf v8).toNat)
  case atStart => exact ⟨0, 0, rfl, rfl, by omega, by omega, Lib.hid (by rw [List.drop_zero, Int.zero_add]), Kept.refl _ _⟩
  case round =>
    obtain ⟨acc, j, rfl, rfl, hj, h0, HS, HK⟩ := hrel
    have hroom := kraft_room zs j acc HS.out hl
    by_cases hlt : (j : Int) < zs.length
    · obtain ⟨g, off, rfl, hg, hc⟩ := HR.out j (by omega)
      have hc' := HK.out.cell hc
      have hbd := HZ.out.getD j
      have hs := HS.out
      rw [kraft_step zs j (by omega)] at hs
      obtain ⟨z, hz⟩ : ∃ z, z = zs.getD j 0 := ⟨_, rfl⟩
      rw [← hz] at hc' hbd hs
      clear hz hc
      have hkp := kpart_bd z
      by_cases hin : 1 ≤ z ∧ z ≤ 15
      · obtain ⟨k, rfl⟩ : ∃ k : Nat, z = (k : Int) := ⟨z.toNat, by omega⟩
        have hd := kpart_pow k (by omega) (by omega)
        have hw : wrap64 (acc + wrap64 (2 ^ (15 - k))) = acc + kpart k := by
          have h1 : wrap64 (kpart k) = kpart k := IntWalk.wrap64_in _ (by omega)
          rw [hd, h1]; exact IntWalk.wrap64_in _ (by omega)
        have HW := Lib.hid hw; have HS2 := Lib.hid hs
        obtain ⟨p, hp⟩ : ∃ p, p = kpart k := ⟨_, rfl⟩
        rw [← hp] at HW HS2 hkp
        clear hw hs hd hp
        go_wp2
        go_roundw
        case rel => exact ⟨acc + p, j + 1, by rw [HW.out], by go_num, by omega, by omega, Lib.hid (by have := HS2.out; omega), HK⟩
        case measure => simp [intOf]; omega
      · have h0k := kpart_out z hin
        rw [h0k] at hs
        have HS2 := Lib.hid hs
        clear hs hkp h0k
        have hc : z < 1 ∨ (¬ z < 1 ∧ 15 < z) := by omega
        rcases hc with h1 | ⟨h1, h2⟩
        all_goals
          clear hin
          go_wp2
          go_roundw
          case rel => exact ⟨acc, j + 1, rfl, by go_num, by omega, h0, Lib.hid (by have := HS2.out; omega), HK⟩
          case measure => simp [intOf]; omega
    · have hs := HS.out
      rw [kraft_end zs j (by omega)] at hs
      obtain rfl : acc = kraftL zs := by omega
      clear hs hroom
      go_wp2
      go_ret
      exact ⟨rfl, HK.out⟩

/-- Small numbers. -/
def Small (m : Int) (zs : List Int) : Prop := ∀ z ∈ zs, 0 ≤ z ∧ z ≤ m
theorem Small.getD {m : Int} {zs : List Int} (h : Small m zs) (i : Nat) (hi : i < zs.length) : 0 ≤ zs.getD i 0 ∧ zs.getD i 0 ≤ m := by
  have : zs.getD i 0 = zs[i] := by simp [List.getD, hi]
  rw [this]; exact h _ (List.getElem_mem hi)
theorem cost_step (a b : List Int) (j : Nat) (ha : j < a.length) (hb : j < b.length) : costL (a.drop j) (b.drop j) = a.getD j 0 * b.getD j 0 + costL (a.drop (j + 1)) (b.drop (j + 1)) := by
  rw [List.drop_eq_getElem_cons ha, List.drop_eq_getElem_cons hb]; simp [costL, List.getD, ha, hb]
theorem cost_end (a b : List Int) (j : Nat) (h : a.length ≤ j ∨ b.length ≤ j) : costL (a.drop j) (b.drop j) = 0 := by
  rcases h with h | h
  · rw [List.drop_of_length_le h]; simp [costL]
  · rw [List.drop_of_length_le h]; cases a.drop j <;> simp [costL]
theorem prod_bd {x y : Int} (hx : 0 ≤ x ∧ x ≤ 1048576) (hy : 0 ≤ y ∧ y ≤ 1048576) : 0 ≤ x * y ∧ x * y ≤ 1099511627776 := by
  refine ⟨Int.mul_nonneg hx.1 hy.1, ?_⟩
  have h1 : x * y ≤ 1048576 * y := Int.mul_le_mul_of_nonneg_right hx.2 hy.1
  omega

end Go.Proofs.Ytokdlmpnokmniaa
