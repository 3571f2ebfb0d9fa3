/-
  huff.Cost, huff.Kraft, the document's Kraft.
-/
import Derived.Test.YtngllecfhkgckaaInts
namespace Go.Proofs.Ytngllecfhkgckaa
open Go.RowKit
set_option linter.unusedVariables false
set_option linter.unusedSimpArgs false

/-- How much of all codes one of this length takes up. -/
def kpart (z : Int) : Int := if 1 ≤ z ∧ z ≤ 15 then ((2 ^ (15 - z.toNat) : Nat) : Int) else 0
def kraftL : List Int → Int
  | [] => 0
  | z :: r => kpart z + kraftL r
def costL : List Int → List Int → Int
  | x :: r, y :: s => x * y + costL r s
  | _, _ => 0

theorem kpart_bd (z : Int) : 0 ≤ kpart z ∧ kpart z ≤ 32768 := by
  unfold kpart
  split
  · have h := Nat.pow_le_pow_right (n := 2) (by decide) (show 15 - z.toNat ≤ 15 by omega)
    obtain ⟨p, hp⟩ : ∃ p, p = 2 ^ (15 - z.toNat) := ⟨_, rfl⟩
    rw [← hp] at h ⊢
    clear hp
    constructor <;> omega
  · decide
theorem kraft_bd : ∀ l : List Int, 0 ≤ kraftL l ∧ kraftL l ≤ 32768 * (l.length : Int)
  | [] => by simp [kraftL]
  | z :: r => by
    have h1 := kpart_bd z
    have h2 := kraft_bd r
    simp only [kraftL, List.length_cons]
    constructor <;> omega
theorem kraft_append : ∀ a b : List Int, kraftL (a ++ b) = kraftL a + kraftL b
  | [], b => by simp [kraftL]
  | z :: r, b => by simp only [List.cons_append, kraftL, kraft_append r b]; omega
theorem kraft_step (zs : List Int) (j : Nat) (h : j < zs.length) : kraftL (zs.drop j) = kpart (zs.getD j 0) + kraftL (zs.drop (j + 1)) := by
  rw [List.drop_eq_getElem_cons h]; simp [kraftL, List.getD, h]
theorem kraft_end (zs : List Int) (j : Nat) (h : zs.length ≤ j) : kraftL (zs.drop j) = 0 := by
  rw [List.drop_of_length_le h]; rfl
theorem kraft_room (zs : List Int) (j : Nat) (acc : Int) (h : acc + kraftL (zs.drop j) = kraftL zs) (hl : zs.length ≤ 1000000000) : acc ≤ 40000000000000 := by
  have h1 := kraft_bd (zs.drop j)
  have h2 := kraft_bd zs
  omega

theorem kpart_div : ∀ k : Nat, 1 ≤ k → k ≤ 15 → (32768 : Int) / 2 ^ k = kpart (k : Int) := by
  intro k h1 h2
  have : k = 1 ∨ k = 2 ∨ k = 3 ∨ k = 4 ∨ k = 5 ∨ k = 6 ∨ k = 7 ∨ k = 8 ∨ k = 9 ∨ k = 10 ∨ k = 11 ∨ k = 12 ∨ k = 13 ∨ k = 14 ∨ k = 15 := by omega
  rcases this with rfl | rfl | rfl | rfl | rfl | rfl | rfl | rfl | rfl | rfl | rfl | rfl | rfl | rfl | rfl <;> decide
theorem kpart_pow : ∀ k : Nat, 1 ≤ k → k ≤ 15 → (2 : Int) ^ (15 - k) = kpart (k : Int) := by
  intro k h1 h2
  have : k = 1 ∨ k = 2 ∨ k = 3 ∨ k = 4 ∨ k = 5 ∨ k = 6 ∨ k = 7 ∨ k = 8 ∨ k = 9 ∨ k = 10 ∨ k = 11 ∨ k = 12 ∨ k = 13 ∨ k = 14 ∨ k = 15 := by omega
  rcases this with rfl | rfl | rfl | rfl | rfl | rfl | rfl | rfl | rfl | rfl | rfl | rfl | rfl | rfl | rfl <;> decide
theorem kpart_out (z : Int) (h : ¬ (1 ≤ z ∧ z ≤ 15)) : kpart z = 0 := if_neg h

set_option maxRecDepth 20000 in
set_option maxHeartbeats 1000000 in
theorem kraft_calls (ao : Option Addr) (cap B : Nat) (zs : List Int) (w : World) (hr : RdI w B ao zs) (hz : AllI zs) (hl : zs.length ≤ 1000000000) :
    Calls Try.prog 13 #[.slice ao zs.length cap] w fun e w' => e = .returned (.tuple #[.int .i64 (kraftL zs), .int .i64 32768]) ∧ Kept NoB w w' := by
  have HR := Lib.hid hr
  have HZ := Lib.hid hz
  clear hr hz
  go_enter Try.func13, Try.ntmps13
  go_wp2
  go_loopw [2, 8, 5] (fun v2 v8 _v5 wr => ∃ (acc : Int) (j : Nat), v2 = .int .i64 acc ∧ v8 = .int .i64 (j : Int) ∧ j ≤ zs.length ∧ 0 ≤ acc ∧ Hid (acc + kraftL (zs.drop j) = kraftL zs) ∧ Hid (Kept NoB w wr)) (fun _ v8 _ _ => zs.length - (intOf v8).toNat)
  case atStart => exact ⟨0, 0, rfl, rfl, by omega, by omega, Lib.hid (by rw [List.drop_zero, Int.zero_add]), Kept.refl _ _⟩
  case round =>
    obtain ⟨acc, j, rfl, rfl, hj, h0, HS, HK⟩ := hrel
    have hroom := kraft_room zs j acc HS.out hl
    by_cases hlt : (j : Int) < zs.length
    · obtain ⟨g, off, rfl, hg, hc⟩ := HR.out j (by omega)
      have hc' := HK.out.cell hc
      have hbd := HZ.out.getD j
      have hs := HS.out
      rw [kraft_step zs j (by omega)] at hs
      obtain ⟨z, hz⟩ : ∃ z, z = zs.getD j 0 := ⟨_, rfl⟩
      rw [← hz] at hc' hbd hs
      clear hz hc
      have hkp := kpart_bd z
      by_cases hin : 1 ≤ z ∧ z ≤ 15
      · obtain ⟨k, rfl⟩ : ∃ k : Nat, z = (k : Int) := ⟨z.toNat, by omega⟩
        have hd := kpart_div k (by omega) (by omega)
        have hw : wrap64 (acc + 32768 / 2 ^ k) = acc + kpart k := by rw [hd]; exact IntWalk.wrap64_in _ (by omega)
        have HW := Lib.hid hw; have HS2 := Lib.hid hs
        obtain ⟨p, hp⟩ : ∃ p, p = kpart k := ⟨_, rfl⟩
        rw [← hp] at HW HS2 hkp
        clear hw hs hd hp
        go_wp2
        go_roundw
        case rel => exact ⟨acc + p, j + 1, by rw [HW.out], by go_num, by omega, by omega, Lib.hid (by have := HS2.out; omega), HK⟩
        case measure => simp [intOf]; omega
      · have h0k := kpart_out z hin
        rw [h0k] at hs
        have HS2 := Lib.hid hs
        clear hs hkp h0k
        have hc : z < 1 ∨ (¬ z < 1 ∧ 15 < z) := by omega
        rcases hc with h1 | ⟨h1, h2⟩
        all_goals
          clear hin
          go_wp2
          go_roundw
          case rel => exact ⟨acc, j + 1, rfl, by go_num, by omega, h0, Lib.hid (by have := HS2.out; omega), HK⟩
          case measure => simp [intOf]; omega
    · have hs := HS.out
      rw [kraft_end zs j (by omega)] at hs
      obtain rfl : acc = kraftL zs := by omega
      clear hs hroom
      go_wp2
      go_ret2
      exact ⟨rfl, HK.out⟩

set_option maxRecDepth 20000 in
set_option maxHeartbeats 1000000 in
theorem rkraft_calls (ao : Option Addr) (cap B : Nat) (zs : List Int) (w : World) (hr : RdI w B ao zs) (hz : AllI zs) (hl : zs.length ≤ 1000000000) :
    Calls Try.prog 14 #[.slice ao zs.length cap] w fun e w' => e = .returned (.int .i64 (kraftL zs)) ∧ Kept NoB w w' := by
  have HR := Lib.hid hr
  have HZ := Lib.hid hz
  clear hr hz
  go_enter Try.func14, Try.ntmps14
  go_wp2
  go_loopw [3, 4] (fun v2 v8 wr => ∃ (acc : Int) (j : Nat), v2 = .int .i64 acc ∧ v8 = .int .i64 (j : Int) ∧ j ≤ zs.length ∧ 0 ≤ acc ∧ Hid (acc + kraftL (zs.drop j) = kraftL zs) ∧ Hid (Kept NoB w wr)) (fun _ v8 _ => zs.length - (intOf v8).toNat)
  case atStart => exact ⟨0, 0, rfl, rfl, by omega, by omega, Lib.hid (by rw [List.drop_zero, Int.zero_add]), Kept.refl _ _⟩
  case round =>
    obtain ⟨acc, j, rfl, rfl, hj, h0, HS, HK⟩ := hrel
    have hroom := kraft_room zs j acc HS.out hl
    by_cases hlt : (j : Int) < zs.length
    · obtain ⟨g, off, rfl, hg, hc⟩ := HR.out j (by omega)
      have hc' := HK.out.cell hc
      have hbd := HZ.out.getD j
      have hs := HS.out
      rw [kraft_step zs j (by omega)] at hs
      obtain ⟨z, hz⟩ : ∃ z, z = zs.getD j 0 := ⟨_, rfl⟩
      rw [← hz] at hc' hbd hs
      clear hz hc
      have hkp := kpart_bd z
      by_cases hin : 1 ≤ z ∧ z ≤ 15
      · obtain ⟨k, rfl⟩ : ∃ k : Nat, z = (k : Int) := ⟨z.toNat, by omega⟩
        have hd := kpart_pow k (by omega) (by omega)
        have hw : wrap64 (acc + wrap64 (2 ^ (15 - k))) = acc + kpart k := by
          have h1 : wrap64 (kpart k) = kpart k := IntWalk.wrap64_in _ (by omega)
          rw [hd, h1]; exact IntWalk.wrap64_in _ (by omega)
        have HW := Lib.hid hw; have HS2 := Lib.hid hs
        obtain ⟨p, hp⟩ : ∃ p, p = kpart k := ⟨_, rfl⟩
        rw [← hp] at HW HS2 hkp
        clear hw hs hd hp
        go_wp2
        go_roundw
        case rel => exact ⟨acc + p, j + 1, by rw [HW.out], by go_num, by omega, by omega, Lib.hid (by have := HS2.out; omega), HK⟩
        case measure => simp [intOf]; omega
      · have h0k := kpart_out z hin
        rw [h0k] at hs
        have HS2 := Lib.hid hs
        clear hs hkp h0k
        have hc : z < 1 ∨ (¬ z < 1 ∧ 15 < z) := by omega
        rcases hc with h1 | ⟨h1, h2⟩
        all_goals
          clear hin
          go_wp2
          go_roundw
          case rel => exact ⟨acc, j + 1, rfl, by go_num, by omega, h0, Lib.hid (by have := HS2.out; omega), HK⟩
          case measure => simp [intOf]; omega
    · have hs := HS.out
      rw [kraft_end zs j (by omega)] at hs
      obtain rfl : acc = kraftL zs := by omega
      clear hs hroom
      go_wp2
      go_ret
      exact ⟨rfl, HK.out⟩

/-- Small numbers. -/
def Small (m : Int) (zs : List Int) : Prop := ∀ z ∈ zs, 0 ≤ z ∧ z ≤ m
theorem Small.getD {m : Int} {zs : List Int} (h : Small m zs) (i : Nat) (hi : i < zs.length) : 0 ≤ zs.getD i 0 ∧ zs.getD i 0 ≤ m := by
  have : zs.getD i 0 = zs[i] := by simp [List.getD, hi]
  rw [this]; exact h _ (List.getElem_mem hi)
theorem cost_step (a b : List Int) (j : Nat) (ha : j < a.length) (hb : j < b.length) : costL (a.drop j) (b.drop j) = a.getD j 0 * b.getD j 0 + costL (a.drop (j + 1)) (b.drop (j + 1)) := by
  rw [List.drop_eq_getElem_cons ha, List.drop_eq_getElem_cons hb]; simp [costL, List.getD, ha, hb]
theorem cost_end (a b : List Int) (j : Nat) (h : a.length ≤ j ∨ b.length ≤ j) : costL (a.drop j) (b.drop j) = 0 := by
  rcases h with h | h
  · rw [List.drop_of_length_le h]; simp [costL]
  · rw [List.drop_of_length_le h]; cases a.drop j <;> simp [costL]
theorem prod_bd {x y : Int} (hx : 0 ≤ x ∧ x ≤ 1048576) (hy : 0 ≤ y ∧ y ≤ 1048576) : 0 ≤ x * y ∧ x * y ≤ 1099511627776 := by
  refine ⟨Int.mul_nonneg hx.1 hy.1, ?_⟩
  have h1 : x * y ≤ 1048576 * y := Int.mul_le_mul_of_nonneg_right hx.2 hy.1
  omega

set_option maxRecDepth 20000 in
set_option maxHeartbeats 1000000 in
theorem cost_calls (ao bo : Option Addr) (ca cb B C : Nat) (xs ys : List Int) (w : World) (hx : RdI w B ao xs) (hy : RdI w C bo ys) (hxs : Small 1048576 xs) (hys : Small 1048576 ys) (hlx : xs.length ≤ 100000) (hly : ys.length ≤ 1000000000) :
    Calls Try.prog 10 #[.slice ao xs.length ca, .slice bo ys.length cb] w fun e w' => e = .returned (.int .i64 (costL xs ys)) ∧ Kept NoB w w' := by
  have HX := Lib.hid hx
  have HY := Lib.hid hy
  have HXs := Lib.hid hxs
  have HYs := Lib.hid hys
  clear hx hy hxs hys
  have hc : ((ys.length : Int) < xs.length ∧ ∃ m : Nat, m = ys.length ∧ m ≤ xs.length ∧ m ≤ ys.length) ∨ (¬ (ys.length : Int) < xs.length ∧ ∃ m : Nat, m = xs.length ∧ m ≤ xs.length ∧ m ≤ ys.length) := by
    by_cases h : (ys.length : Int) < xs.length
    · exact .inl ⟨h, _, rfl, by omega, by omega⟩
    · exact .inr ⟨h, _, rfl, by omega, by omega⟩
  rcases hc with ⟨hc, m, hm, hmx, hmy⟩ | ⟨hc, m, hm, hmx, hmy⟩
  all_goals
    go_enter Try.func10, Try.ntmps10
    go_wp2
    go_loopw [5, 12, 6] (fun v5 v12 _v6 wr => ∃ (acc : Int) (j : Nat), v5 = .int .i64 acc ∧ v12 = .int .i64 (j : Int) ∧ j ≤ m ∧ 0 ≤ acc ∧ acc ≤ 1099511627776 * (j : Int) ∧ Hid (acc + costL (xs.drop j) (ys.drop j) = costL xs ys) ∧ Hid (Kept NoB w wr)) (fun _ v12 _ _ => m - (intOf v12).toNat)
    case atStart => exact ⟨0, 0, rfl, rfl, by omega, by omega, by omega, Lib.hid (by rw [List.drop_zero, List.drop_zero, Int.zero_add]), Kept.refl _ _⟩
    case round =>
      obtain ⟨acc, j, rfl, rfl, hj, h0, hab, HS, HK⟩ := hrel
      by_cases hlt : j < m
      · have hlx' : (j : Int) < xs.length := by omega
        have hly' : (j : Int) < ys.length := by omega
        obtain ⟨g, off, rfl, hg, hcx⟩ := HX.out j (by omega)
        obtain ⟨g2, off2, rfl, hg2, hcy⟩ := HY.out j (by omega)
        have hcx' := HK.out.cell hcx
        have hcy' := HK.out.cell hcy
        have hbx := HXs.out.getD j (by omega)
        have hby := HYs.out.getD j (by omega)
        have hs := HS.out
        rw [cost_step xs ys j (by omega) (by omega)] at hs
        obtain ⟨x, hx⟩ : ∃ x, x = xs.getD j 0 := ⟨_, rfl⟩
        obtain ⟨y, hy⟩ : ∃ y, y = ys.getD j 0 := ⟨_, rfl⟩
        rw [← hx] at hcx' hbx hs
        rw [← hy] at hcy' hby hs
        have hp := prod_bd hbx hby
        have hw1 : wrap64 (x * y) = x * y := IntWalk.wrap64_in _ (by omega)
        obtain ⟨p, hpe⟩ : ∃ p, p = x * y := ⟨_, rfl⟩
        rw [← hpe] at hs hp hw1
        have hw2 : wrap64 (acc + p) = acc + p := IntWalk.wrap64_in _ (by omega)
        have HPe := Lib.hid hpe; have HW1 := Lib.hid hw1; have HW2 := Lib.hid hw2; have HS2 := Lib.hid hs
        clear hw1 hw2 hs hpe hx hy hcx hcy
        go_upto_region 5 with fail
        go_quiet (fail)
        have HK2 := Lib.hid (HK.out.drewN nq)
        go_wp2
        go_roundw
        case rel => exact ⟨acc + p, j + 1, by rw [← HPe.out, HW1.out, HW2.out], by go_num, by omega, by omega, by omega, Lib.hid (by have := HS2.out; omega), HK2⟩
        case measure => simp [intOf]; omega
      · have hs := HS.out
        rw [cost_end xs ys j (by omega)] at hs
        obtain rfl : acc = costL xs ys := by omega
        clear hs
        have hlt' : m ≤ j := by omega
        go_wp2
        go_ret
        exact ⟨rfl, HK.out⟩

end Go.Proofs.Ytngllecfhkgckaa
