/-
  What is there by a name gives way to what is made by it: ExtractOver.
-/
import Derived.Test.YtgbakogihkdddaaGreatDoorExTopM
import Derived.BigRegion
import Derived.Deep.CutBlock
namespace Go.Proofs.YtgbakogihkdddaaGreatDoor
open Go.RowKit Go.Shelf
set_option linter.unusedVariables false
set_option linter.unusedSimpArgs false
set_option maxRecDepth 20000

theorem i64_maskO (n : Int) (k : Nat) (hk : k ≤ 62) : bits .and .i64 n ((2 ^ k - 1 : Nat) : Int) = n % ((2 ^ k : Nat) : Int) := by
  have h1 : 1 ≤ 2 ^ k := Nat.one_le_two_pow
  have h2 : 2 ^ k ≤ 2 ^ 62 := pow_le_pow2 hk
  have ha : (BitVec.ofInt 64 ((2 ^ k - 1 : Nat) : Int)).toNat = 2 ^ k - 1 := by
    rw [BitVec.ofInt_natCast, BitVec.toNat_ofNat]; exact Nat.mod_eq_of_lt (by omega)
  show IntKind.i64.wrap ((BitVec.ofInt 64 n &&& BitVec.ofInt 64 ((2 ^ k - 1 : Nat) : Int)).toNat : Int) = _
  rw [BitVec.toNat_and, ha, Nat.and_two_pow_sub_one_eq_mod]
  have hm : (((BitVec.ofInt 64 n).toNat : Nat) : Int) = n % 18446744073709551616 := by
    rw [BitVec.toNat_ofInt]
    omega
  have hlt : (BitVec.ofInt 64 n).toNat % 2 ^ k < 2 ^ k := Nat.mod_lt _ (by omega)
  rw [IntWalk.i64_in _ (by omega), Int.natCast_emod, hm]
  exact Int.emod_emod_of_dvd n (Int.ofNat_dvd.2 (show 2 ^ k ∣ 2 ^ 64 from Nat.pow_dvd_pow 2 (by omega)))

def ovK (i : Nat) : Int := [1, 1, 6, 6, 3, 7, 4, 5].getD i 0
def ovN (i : Nat) : NodeV := ⟨ovK i, 1, 0, 0, 0, if ovK i = 3 then ⟨#[97]⟩ else ⟨#[]⟩, 0, 0, 0, 0, 0⟩
set_option maxHeartbeats 4000000 in
theorem node13_any (a : Int) (ha : okI a) (i : Nat) (hi : (i : Int) = a % 8) (w : World) : Calls Tryz.prog 9 #[.agg #[.int .i64 a, .int .i64 1, .int .i64 0, .int .i64 0, .int .i64 0, .string { data := #[] }, .int .i64 0, .int .i64 0, .int .i64 0, .int .i64 0, .int .i64 0]] w fun e w' => e = .returned (.agg (nvC (ovN i)).toArray) ∧ Kept NoB w w' := by
  have hi8 : i < 8 := by omega
  have m7 : bits .and .i64 a 7 = (i : Int) := by rw [hi]; exact i64_maskO a 3 (by decide)
  have m1 : bits .and .i64 1 4095 = 1 := i64_maskO 1 12 (by decide)
  have m2 : bits .and .i64 0 65535 = 0 := i64_maskO 0 16 (by decide)
  have m3 : bits .and .i64 0 16777215 = 0 := i64_maskO 0 24 (by decide)
  have m4 : bits .and .i64 0 255 = 0 := i64_maskO 0 8 (by decide)
  obtain ⟨w1, hw1⟩ : ∃ w1, w1 = w.alloc (.cells #[.int .i64 a, .int .i64 1, .int .i64 0, .int .i64 0, .int .i64 0, .string { data := #[] }, .int .i64 0, .int .i64 0, .int .i64 0, .int .i64 0, .int .i64 0] 27) := ⟨_, rfl⟩
  have hk1 : Kept NoB w w1 := by rw [hw1]; exact (Kept.refl NoB w).alloc _
  have hs1 : w1.heap.size = w.heap.size + 1 := by rw [hw1]; simp
  have ob1 : w1.heap[w.heap.size]? = some (.cells #[.int .i64 a, .int .i64 1, .int .i64 0, .int .i64 0, .int .i64 0, .string { data := #[] }, .int .i64 0, .int .i64 0, .int .i64 0, .int .i64 0, .int .i64 0] 27 (0, 0)) := by rw [hw1]; exact heap_alloc_new _ _
  obtain ⟨w2, hw2⟩ : ∃ w2, w2 = w1.alloc (.cells #[.int .i64 0, .int .i64 0, .int .i64 0, .int .i64 0, .int .i64 0, .string { data := #[] }, .int .i64 0, .int .i64 0, .int .i64 0, .int .i64 0, .int .i64 0] 27) := ⟨_, rfl⟩
  have hk2 : Kept NoB w1 w2 := by rw [hw2]; exact (Kept.refl NoB w1).alloc _
  have hs2 : w2.heap.size = w.heap.size + 2 := by rw [hw2]; simp [hs1]
  have o22 : w2.heap[w.heap.size + 1]? = some (.cells (nvC zeroNV).toArray 27 (0, 0)) := by rw [hw2, ← hs1]; exact heap_alloc_new _ _
  obtain ⟨w3, hw3⟩ : ∃ w3, w3 = w2.alloc (.cells #[.int .i64 1, .int .i64 1, .int .i64 6, .int .i64 6, .int .i64 3, .int .i64 7, .int .i64 4, .int .i64 5] 3) := ⟨_, rfl⟩
  have hk3 : Kept NoB w2 w3 := by rw [hw3]; exact (Kept.refl NoB w2).alloc _
  have hs3 : w3.heap.size = w.heap.size + 3 := by rw [hw3]; simp [hs2]
  obtain ⟨kk, hkk⟩ : ∃ kk, kk = ovK i := ⟨_, rfl⟩
  have hci : w3.cell? ⟨w2.heap.size, i, none⟩ = some (.int .i64 kk) := by
    rw [hw3, cell_of_row _ _ _ _ _ (0, 0) (heap_alloc_new _ _), hkk]
    obtain rfl | rfl | rfl | rfl | rfl | rfl | rfl | rfl : i = 0 ∨ i = 1 ∨ i = 2 ∨ i = 3 ∨ i = 4 ∨ i = 5 ∨ i = 6 ∨ i = 7 := by omega
    all_goals rfl
  have ob3 := (hk2.trans hk3).obj ob1 id
  have c0 : w2.cell? ⟨w.heap.size, 0, none⟩ = some (.int .i64 a) := by rw [obj_cell (hk2.obj ob1 id)]; rfl
  have c03 : w3.cell? ⟨w.heap.size, 0, none⟩ = some (.int .i64 a) := by rw [obj_cell ob3]; rfl
  have c1 : w3.cell? ⟨w.heap.size, 1, none⟩ = some (.int .i64 1) := by rw [obj_cell ob3]; rfl
  have c2 : w3.cell? ⟨w.heap.size, 2, none⟩ = some (.int .i64 0) := by rw [obj_cell ob3]; rfl
  have c3 : w3.cell? ⟨w.heap.size, 3, none⟩ = some (.int .i64 0) := by rw [obj_cell ob3]; rfl
  have c4 : w3.cell? ⟨w.heap.size, 4, none⟩ = some (.int .i64 0) := by rw [obj_cell ob3]; rfl
  have HK3 := Lib.hid ((hk1.trans hk2).trans hk3)
  have HO1 := Lib.hid ob3; have HO2 := Lib.hid (hk3.obj o22 id)
  have HW1 := Lib.hid hw1; have HW2 := Lib.hid hw2; have HW3 := Lib.hid hw3; have HS3 := Lib.hid hs3; have HKk := Lib.hid hkk
  clear hw1 hw2 hw3 hk1 hk2 hk3 hs1 hs2 hs3 ob1 ob3 o22 hkk hi
  go_enter Tryz.func9, Tryz.ntmps9
  go_upto_region 1 with fail
  rw [← HW1.out, ← HW2.out]
  rw [HW3.out] at hci c03
  go_upto_region 2 with fail
  rw [← HW3.out]
  clear hci c03 c0 m7
  obtain ⟨V, hV⟩ : ∃ V : NodeV, V = ⟨kk, 1, 0, 0, 0, ⟨#[]⟩, 0, 0, 0, 0, 0⟩ := ⟨_, rfl⟩
  obtain ⟨w4, hw4⟩ : ∃ w4, w4 = w3.alloc (.cells #[.int .i64 kk, .int .i64 1, .int .i64 0, .int .i64 0, .int .i64 0, .string { data := #[] }, .int .i64 0, .int .i64 0, .int .i64 0, .int .i64 0, .int .i64 0] 27) := ⟨_, rfl⟩
  have hk4 : Kept NoB w3 w4 := by rw [hw4]; exact (Kept.refl NoB w3).alloc _
  have ob4 : w4.heap[w3.heap.size]? = some (.cells (nvC V).toArray 27 (0, 0)) := by rw [hw4, hV]; exact heap_alloc_new _ _
  have HW4 := Lib.hid hw4
  obtain ⟨g, hg⟩ : ∃ g, g = w3.heap.size := ⟨_, rfl⟩
  have hgs : g = w.heap.size + 3 := by rw [hg]; exact HS3.out
  have o24 := hk4.obj HO2.out id
  have o14 := hk4.obj HO1.out id
  have y6 : w4.cell? ⟨w.heap.size, 6, none⟩ = some (.int .i64 0) := by rw [obj_cell o14]; rfl
  have y7 : w4.cell? ⟨w.heap.size, 7, none⟩ = some (.int .i64 0) := by rw [obj_cell o14]; rfl
  have HK4 := Lib.hid (HK3.out.trans hk4)
  have HN1 := Lib.hid (nv_one (ovN i))
  have HG := Lib.hid hgs; have HG0 := Lib.hid hg; have HV := Lib.hid hV; have HO14 := Lib.hid o14
  rw [← hg] at ob4
  clear hw4 hg hV hgs
  go_upto_region 3 with fail
  rw [← HW4.out, ← HG0.out]
  clear c1 c2 c3 c4
  by_cases k3 : kk = 3
  · have e3 : (kk == 3) = true := by simpa using k3
    obtain ⟨w5, hw5⟩ : ∃ w5, w5 = w4.alloc (.cells #[.string { data := #[97] }, .string { data := #[46, 46, 47, 98] }, .string { data := #[47, 99, 47, 100] }, .string { data := #[120, 47, 46, 47, 121] }, .string { data := #[46] }] 9) := ⟨_, rfl⟩
    have hk5 : Kept NoB w4 w5 := by rw [hw5]; exact (Kept.refl NoB w4).alloc _
    have ob5 := hk5.obj ob4 id
    have z8 : w5.cell? ⟨w.heap.size, 8, none⟩ = some (.int .i64 0) := by rw [obj_cell (hk5.obj o14 id)]; rfl
    have z0 : w5.cell? ⟨w4.heap.size, 0, none⟩ = some (.string { data := #[97] }) := by rw [hw5, cell_of_row _ _ _ _ _ (0, 0) (heap_alloc_new _ _)]; rfl
    have x5 : w5.cell? ⟨g, 5, none⟩ = some (.string ⟨#[]⟩) := by rw [obj_cell ob5, HV.out]; rfl
    have g5 := obj_free ob5 5
    obtain ⟨w6, hw6⟩ : ∃ w6, w6 = w5.setCell ⟨g, 5, none⟩ (.string { data := #[97] }) := ⟨_, rfl⟩
    have HB6 : Hid (w6.heap[g]? = some (.cells (nvC (ovN i)).toArray 27 (0, 0))) := Lib.hid (by
      rw [hw6]
      have h0 := obj_set ob5 5 (.string { data := #[97] })
      rw [h0, HV.out]
      unfold ovN
      rw [← HKk.out, if_pos k3]
      rfl)
    have HZ6 : Hid (w6.heap[w.heap.size + 1]? = some (.cells (nvC zeroNV).toArray 27 (0, 0))) := Lib.hid (by rw [hw6, Below.heap_setCell _ _ _ _ (by have := HG.out; dsimp only; omega)]; exact hk5.obj o24 id)
    have HK6 : Hid (Kept NoB w w6) := Lib.hid (by rw [hw6]; exact (HK4.out.trans hk5).setCell (.inr (by have := HG.out; dsimp only; omega)) _)
    rw [hw5] at z8 z0 x5 g5 hw6
    have HW6 := Lib.hid hw6
    clear hw5 hk5 ob5 hw6 ob4 o24 o14 y6 y7
    go_upto_region 9 with fail
    rw [← HW6.out]
    clear z8 z0 x5 g5 k3 e3
    go_wp2_with (first | (refine load_rowN (by rfl) (.tmp 4) rfl g rfl (ovN i) HB6.out ?_) | (refine wpList_store_row rfl 27 (.tmp 2) (.tmp 46) rfl (w.heap.size + 1) (nvC (ovN i)).toArray rfl rfl _ _ HZ6.out infoNd rfl HN1.out ?_))
    refine bodyPost_ret (results_cell_row rfl _ _ (w.heap.size + 1) 27 (nvC (ovN i)).toArray (0, 0) _ rfl (setRow_heap _ _ _ _ _ _ HZ6.out) Tryz.underlying27 rfl infoNd) rfl ?_
    exact ⟨rfl, HK6.out.setRow (.inr (by omega)) _⟩
  have e3 : (kk == 3) = false := by simpa using k3
  have hVn : V = ovN i := by
    rw [HV.out]
    unfold ovN
    rw [← HKk.out, if_neg k3]
  rw [hVn] at ob4
  have HB4 := Lib.hid ob4; have HZ4 := Lib.hid o24
  have hend : kk = 4 ∨ kk = 5 → True := fun _ => trivial
  clear hend
  by_cases k45 : kk = 4 ∨ kk = 5
  · have x6 : w4.cell? ⟨g, 6, none⟩ = some (.int .i64 0) := by rw [obj_cell ob4]; rfl
    have x7 : w4.cell? ⟨g, 7, none⟩ = some (.int .i64 0) := by rw [obj_cell ob4]; rfl
    have g6 := obj_free ob4 6
    have g7 := obj_free ob4 7
    obtain ⟨w6, hw6⟩ : ∃ w6, w6 = ((w4.setCell ⟨g, 6, none⟩ (.int .i64 0)).setCell ⟨g, 7, none⟩ (.int .i64 0)).drew := ⟨_, rfl⟩
    have HB6 : Hid (w6.heap[g]? = some (.cells (nvC (ovN i)).toArray 27 (0, 0))) := Lib.hid (by
      have h0 := obj_set (obj_set ob4 6 (.int .i64 0)) 7 (.int .i64 0)
      rw [hw6]
      exact h0)
    have HZ6 : Hid (w6.heap[w.heap.size + 1]? = some (.cells (nvC zeroNV).toArray 27 (0, 0))) := Lib.hid (by
      have hne : g ≠ w.heap.size + 1 := by have := HG.out; omega
      have hk : Kept (OneB g) w4 w6 := by
        rw [hw6]
        exact ((Kept.setCell (S := OneB g) (p := ⟨g, 6, none⟩) (Kept.refl _ w4) (.inl rfl) _).setCell (p := ⟨g, 7, none⟩) (.inl rfl) _).drew
      exact hk.obj o24 (fun e => hne e.symm))
    have HK6 : Hid (Kept NoB w w6) := Lib.hid (by rw [hw6]; exact ((HK4.out.setCell (.inr (by have := HG.out; dsimp only; omega)) _).setCell (.inr (by have := HG.out; dsimp only; omega)) _).drew)
    have HW6 := Lib.hid hw6
    clear hw6 ob4 o24 o14 hVn
    rcases k45 with k4 | k4
    · have e4 : (kk == 4) = true := by rw [k4]; rfl
      go_upto_region 8 with fail
      go_region
      rw [← HW6.out]
      clear x6 x7 g6 g7 e4 e3 k3
      go_wp2_with (first | (refine load_rowN (by rfl) (.tmp 4) rfl g rfl (ovN i) HB6.out ?_) | (refine wpList_store_row rfl 27 (.tmp 2) (.tmp 46) rfl (w.heap.size + 1) (nvC (ovN i)).toArray rfl rfl _ _ HZ6.out infoNd rfl HN1.out ?_))
      refine bodyPost_ret (results_cell_row rfl _ _ (w.heap.size + 1) 27 (nvC (ovN i)).toArray (0, 0) _ rfl (setRow_heap _ _ _ _ _ _ HZ6.out) Tryz.underlying27 rfl infoNd) rfl ?_
      exact ⟨rfl, HK6.out.setRow (.inr (by omega)) _⟩
    · have e4 : (kk == 4) = false := by rw [k4]; rfl
      have e5 : (kk == 5) = true := by rw [k4]; rfl
      go_upto_region 8 with fail
      go_region
      rw [← HW6.out]
      clear x6 x7 g6 g7 e4 e5 e3 k3
      go_wp2_with (first | (refine load_rowN (by rfl) (.tmp 4) rfl g rfl (ovN i) HB6.out ?_) | (refine wpList_store_row rfl 27 (.tmp 2) (.tmp 46) rfl (w.heap.size + 1) (nvC (ovN i)).toArray rfl rfl _ _ HZ6.out infoNd rfl HN1.out ?_))
      refine bodyPost_ret (results_cell_row rfl _ _ (w.heap.size + 1) 27 (nvC (ovN i)).toArray (0, 0) _ rfl (setRow_heap _ _ _ _ _ _ HZ6.out) Tryz.underlying27 rfl infoNd) rfl ?_
      exact ⟨rfl, HK6.out.setRow (.inr (by omega)) _⟩
  · have e4 : (kk == 4) = false := by simp; omega
    have e5 : (kk == 5) = false := by simp; omega
    clear ob4 o24 o14 y6 y7 hVn k45 k3
    go_wp2_with (first | (refine load_rowN (by rfl) (.tmp 4) rfl g rfl (ovN i) HB4.out ?_) | (refine wpList_store_row rfl 27 (.tmp 2) (.tmp 46) rfl (w.heap.size + 1) (nvC (ovN i)).toArray rfl rfl _ _ HZ4.out infoNd rfl HN1.out ?_))
    refine bodyPost_ret (results_cell_row rfl _ _ (w.heap.size + 1) 27 (nvC (ovN i)).toArray (0, 0) _ rfl (setRow_heap _ _ _ _ _ _ HZ4.out) Tryz.underlying27 rfl infoNd) rfl ?_
    exact ⟨rfl, HK4.out.setRow (.inr (by omega)) _⟩
/-- The entry. -/
def ekO (j : Nat) : Int := [1, 6, 3, 7, 8, 4].getD j 0
def ovE (j : Nat) (d : List UInt8) : EntV := ⟨ekO j, [110], if ekO j = 3 then [97, 108, 115, 111] else [], 2, 0, 0, 0, 0, 0, if ekO j = 1 then (d.length : Int) else 0, if ekO j = 1 then (if d = [] then [] else [(0, d)]) else []⟩
def ovT1 (i : Nat) : FsP := (makeP (newT 1000) 1 [110] (ovN i)).1
def ovT2 (i : Nat) : FsP := (writeP (ovT1 i) 2 0 [111, 108, 100]).1
def ovT3 (i : Nat) : FsP := if ovK i = 6 then ovT2 i else (linkP (ovT2 i) 1 [97, 108, 115, 111] 2).1
theorem ov_m1 (i : Nat) (hi : i < 8) : (makeP (newT 1000) 1 [110] (ovN i)).2 = (2, 0) := by
  obtain rfl | rfl | rfl | rfl | rfl | rfl | rfl | rfl : i = 0 ∨ i = 1 ∨ i = 2 ∨ i = 3 ∨ i = 4 ∨ i = 5 ∨ i = 6 ∨ i = 7 := by omega
  all_goals kernel_rfl
theorem ov_lk (i : Nat) (hi : i < 8) (hk : ovK i ≠ 6) : (linkP (ovT2 i) 1 [97, 108, 115, 111] 2).2 = 0 := by
  obtain rfl | rfl | rfl | rfl | rfl | rfl | rfl | rfl : i = 0 ∨ i = 1 ∨ i = 2 ∨ i = 3 ∨ i = 4 ∨ i = 5 ∨ i = 6 ∨ i = 7 := by omega
  all_goals first | exact absurd rfl hk | kernel_rfl
def dirE (j : Nat) : Bool := ekO j == 6 || ekO j == 8
/-- What holds at the end, where a directory was there. -/
def endD (R : FsP × Int) (j : Nat) : Prop := R.2 = (if dirE j then 0 else 13) ∧ findP R.1 1 [110] = (2, 0) ∧ (statP R.1 2).2 = 0 ∧ (statP R.1 2).1.mode = (if dirE j then 2 else 1)
/-- And where none was. -/
def endN (T : FsP) (i j : Nat) : Prop := findP T 1 [110] = (3, 0) ∧ (statP T 3).2 = 0 ∧ (statP T 3).1.mode = 2 ∧ ((statP T 3).1.kind == 6) = dirE j ∧ findP T 1 [97, 108, 115, 111] = (2, 0) ∧ (statP T 2).2 = 0 ∧ (statP T 2).1.links = 1 ∧ (statP T 2).1.mode = 1 ∧ (ovK i = 1 → readP T 2 0 10 = ([111, 108, 100], 0))
theorem ov_dirs (i : Nat) (hi : i = 2 ∨ i = 3) (j : Nat) (hj : j < 6) (h0 : j ≠ 0) : endD (oneP (ovT3 i) 1 (ovE j [])) j := by
  rcases hi with rfl | rfl
  all_goals (obtain rfl | rfl | rfl | rfl | rfl : j = 1 ∨ j = 2 ∨ j = 3 ∨ j = 4 ∨ j = 5 := by omega)
  all_goals exact ⟨by kernel_rfl, by kernel_rfl, by kernel_rfl, by kernel_rfl⟩
theorem ov_none (i : Nat) (hi : i = 0 ∨ i = 1 ∨ i = 4 ∨ i = 5 ∨ i = 6 ∨ i = 7) (j : Nat) (hj : j < 6) (h0 : j ≠ 0) : (oneP (ovT3 i) 1 (ovE j [])).2 = 0 ∧ endN (oneP (ovT3 i) 1 (ovE j [])).1 i j := by
  rcases hi with rfl | rfl | rfl | rfl | rfl | rfl
  all_goals (obtain rfl | rfl | rfl | rfl | rfl : j = 1 ∨ j = 2 ∨ j = 3 ∨ j = 4 ∨ j = 5 := by omega)
  all_goals exact ⟨by kernel_rfl, by kernel_rfl, by kernel_rfl, by kernel_rfl, by kernel_rfl, by kernel_rfl, by kernel_rfl, by kernel_rfl, by kernel_rfl, fun h => by first | exact absurd h (by decide) | kernel_rfl⟩
theorem ovE_same (j : Nat) (h0 : ekO j ≠ 1) (d : List UInt8) : ovE j d = ovE j [] := by
  unfold ovE
  simp [h0]
/-! ### a file of bytes -/
theorem fit_none : ∀ (s : Nat) (k : Int) (room : Nat), s ≤ room → fitB (fun _ => false) s k room = (s, s)
  | 0, k, room, h => by simp [fitB]
  | s + 1, k, room, h => by
    obtain ⟨r, rfl⟩ : ∃ r, room = r + 1 := ⟨room - 1, by omega⟩
    unfold fitB
    simp [fit_none s (k + 1) r (by omega)]
theorem find_nd_eq {T T' : FsP} {dir : Int} (h : T'.nd dir = T.nd dir) (p : List UInt8) : findP T' dir p = findP T dir p := by
  unfold findP placeE namesP
  rw [h]
theorem stat_nd_eq {T T' : FsP} {i : Int} (h : T'.nd i = T.nd i) : statP T' i = statP T i := by unfold statP; rw [h]
theorem read_nd_eq {T T' : FsP} {i : Int} (h : T'.nd i = T.nd i) (k m : Int) : readP T' i k m = readP T i k m := by unfold readP; rw [h]
theorem isD_nil : isD ([] : List Fp) = fun _ => false := by funext x; rfl
theorem fill_new {T : FsP} {i : Int} {n : NdP} (hn : T.nd i = some n) (h1 : n.v.kind = 1) (hd : n.data = []) (d : List UInt8) (hl : d.length ≤ 100) (hq : T.used + 100 ≤ T.quota) (E : EntV) (hs : E.size = d.length) (hp : E.pcs = if d = [] then [] else [(0, d)]) :
    (fillP T i E).2 = 0 ∧ (∀ k, k ≠ i → (fillP T i E).1.nd k = T.nd k) ∧ ∃ n', (fillP T i E).1.nd i = some n' ∧ n'.v.kind = 1 ∧ n'.v.mode = n.v.mode := by
  have hg : growP T i E.size = (growT T i n E.size, 0) := by
    rw [growP_yes hn h1, if_neg (by rw [hs]; omega)]
  have hgn : (growT T i n E.size).nd i = some (grN n (T.clock + 1) E.size) := updN_same _ _ _
  have hcd : cutP n.data E.size = [] := by rw [hd]; rfl
  have hf : fillP T i E = writesP (growT T i n E.size) i E.pcs := by unfold fillP; rw [hg]; rfl
  rw [hf, hp]
  by_cases h0 : d = []
  · rw [if_pos h0]
    exact ⟨rfl, fun k hk => updN_other _ _ hk, _, hgn, h1, rfl⟩
  · rw [if_neg h0]
    have hlen : d.length ≠ 0 := fun e => h0 (List.length_eq_zero_iff.1 e)
    have hfit : fitP (growT T i n E.size) (grN n (T.clock + 1) E.size) 0 d = (d.length, d.length) := by
      unfold fitP
      show fitB (isD (cutP n.data E.size)) _ _ _ = _
      rw [hcd, isD_nil]
      refine fit_none _ _ _ ?_
      show d.length ≤ (T.quota - (T.used - ((sizeD n.data : Int) - (sizeD (cutP n.data E.size) : Int)))).toNat
      rw [hcd, hd]
      have : (sizeD ([] : List Fp) : Int) = 0 := rfl
      omega
    have hw : writeP (growT T i n E.size) i 0 d = (writeT (growT T i n E.size) i (grN n (T.clock + 1) E.size) 0 d d.length, 0) := by
      unfold writeP
      rw [hgn]
      show (if n.v.kind = 1 then _ else _) = _
      rw [if_pos h1, if_neg (by omega), hfit]
      dsimp only
      rw [if_neg hlen, if_neg (by omega), List.take_length]
    have hws : writesP (growT T i n E.size) i [(0, d)] = (writeT (growT T i n E.size) i (grN n (T.clock + 1) E.size) 0 d d.length, 0) := by
      unfold writesP
      rw [show writeP (growT T i n E.size) i ((0, d) : Pc).1 ((0, d) : Pc).2 = _ from hw]
      rfl
    rw [hws]
    refine ⟨rfl, fun k hk => ?_, wrN (grN n (T.clock + 1) E.size) (T.clock + 1 + 1) 0 d, ?_, h1, rfl⟩
    · exact (updN_other _ _ hk).trans (updN_other _ _ hk)
    · exact updN_same _ _ _
/-- What the file's entry finds ahead of it. -/
def ovM (i : Nat) : FsP := (makeP (clearP (ovT3 i) ⟨1, [110], 2, true, false⟩).1 1 [110] ⟨1, 2, 0, 0, 0, ⟨#[]⟩, 0, 0, 0, 0, 0⟩).1
theorem ov_spot (i : Nat) (hi : i = 0 ∨ i = 1 ∨ i = 4 ∨ i = 5 ∨ i = 6 ∨ i = 7) : spotP (ovT3 i) 1 [] [110] = (ovT3 i, some ⟨1, [110], 2, true, false⟩, 0) := by
  rcases hi with rfl | rfl | rfl | rfl | rfl | rfl
  all_goals kernel_rfl
theorem ov_clear (i : Nat) (hi : i = 0 ∨ i = 1 ∨ i = 4 ∨ i = 5 ∨ i = 6 ∨ i = 7) : (clearP (ovT3 i) ⟨1, [110], 2, true, false⟩).2 = 0 := by
  rcases hi with rfl | rfl | rfl | rfl | rfl | rfl
  all_goals kernel_rfl
theorem ov_make (i : Nat) (hi : i = 0 ∨ i = 1 ∨ i = 4 ∨ i = 5 ∨ i = 6 ∨ i = 7) : (makeP (clearP (ovT3 i) ⟨1, [110], 2, true, false⟩).1 1 [110] ⟨1, 2, 0, 0, 0, ⟨#[]⟩, 0, 0, 0, 0, 0⟩).2 = (3, 0) := by
  rcases hi with rfl | rfl | rfl | rfl | rfl | rfl
  all_goals kernel_rfl
theorem ov_fresh (i : Nat) (hi : i = 0 ∨ i = 1 ∨ i = 4 ∨ i = 5 ∨ i = 6 ∨ i = 7) : ∃ n, (ovM i).nd 3 = some n ∧ n.v.kind = 1 ∧ n.data = [] ∧ n.v.mode = 2 := by
  refine ⟨freshN ⟨1, 2, 0, 0, 0, ⟨#[]⟩, 0, 0, 0, 0, 0⟩ (ovM i).clock 1, ?_, rfl, rfl, rfl⟩
  rcases hi with rfl | rfl | rfl | rfl | rfl | rfl
  all_goals kernel_rfl
theorem ov_room (i : Nat) (hi : i = 0 ∨ i = 1 ∨ i = 4 ∨ i = 5 ∨ i = 6 ∨ i = 7) : decide ((ovM i).used + 100 ≤ (ovM i).quota) = true := by
  rcases hi with rfl | rfl | rfl | rfl | rfl | rfl
  all_goals kernel_rfl
theorem ov_endM (i : Nat) (hi : i = 0 ∨ i = 1 ∨ i = 4 ∨ i = 5 ∨ i = 6 ∨ i = 7) : endN (ovM i) i 0 := by
  rcases hi with rfl | rfl | rfl | rfl | rfl | rfl
  all_goals exact ⟨by kernel_rfl, by kernel_rfl, by kernel_rfl, by kernel_rfl, by kernel_rfl, by kernel_rfl, by kernel_rfl, by kernel_rfl, fun h => by first | exact absurd h (by decide) | kernel_rfl⟩
theorem ov_okE (d : List UInt8) (hl : d.length ≤ 100) : okE (ovE 0 d) = true := by
  have h1 : okTxs (ovE 0 d) = true := by
    show (okTx [110] && !(dirK 1 && Lib.hasSuffix [110] [47]) && (if linkK 1 = true then okTx [] else true)) = true
    decide
  have h2 : okNu (ovE 0 d) = true := by
    show ((decide ((1 : Int) ≤ 1) && decide ((1 : Int) ≤ 8)) && (if devK 1 = true then inW 0 1048575 && inW 0 1048575 else decide ((0 : Int) = 0) && decide ((0 : Int) = 0)) && (inW 2 4095 && inW 0 2147483647 && inW 0 2147483647)) = true
    decide
  have h3 : okFi (ovE 0 d) = true := by
    show okS (d.length : Int) (if d = [] then [] else [(0, d)]) = true
    by_cases h : d = []
    · subst h; decide
    · rw [if_neg h]
      have hne : d.isEmpty = false := by cases d with | nil => exact absurd rfl h | cons a r => rfl
      simp only [okS, okG, hne, Bool.and_true, Bool.not_false, Bool.true_and, List.length_cons, List.length_nil, Bool.and_eq_true, decide_eq_true_eq]
      omega
  unfold okE
  rw [h1, h2, h3]; rfl
theorem ov_parts : partsOf [110] = some [[110]] := by kernel_rfl
theorem ov_one0 (T : FsP) (d : List UInt8) (hl : d.length ≤ 100) : oneP T 1 (ovE 0 d) = spotQ (spotP T 1 [] [110]) 1 (ovE 0 d) [] := by
  unfold oneP
  rw [if_pos (ov_okE d hl), show (ovE 0 d).name = [110] from rfl, ov_parts]
  rfl
theorem ov_file (i : Nat) (hi : i = 0 ∨ i = 1 ∨ i = 4 ∨ i = 5 ∨ i = 6 ∨ i = 7) (d : List UInt8) (hl : d.length ≤ 100) : (oneP (ovT3 i) 1 (ovE 0 d)).2 = 0 ∧ endN (oneP (ovT3 i) 1 (ovE 0 d)).1 i 0 := by
  obtain ⟨n, hn, h1, hd, hm⟩ := ov_fresh i hi
  have hM : makeP (clearP (ovT3 i) ⟨1, [110], 2, true, false⟩).1 1 [110] (nodeE (ovE 0 d)) = (ovM i, 3, 0) := Prod.ext rfl (ov_make i hi)
  have he : oneP (ovT3 i) 1 (ovE 0 d) = fillP (ovM i) 3 (ovE 0 d) := by
    rw [ov_one0 _ d hl, ov_spot i hi]
    show putOtherP (ovT3 i) ⟨1, [110], 2, true, false⟩ (ovE 0 d) = _
    unfold putOtherP
    rw [if_pos (ov_clear i hi), hM]
    rfl
  obtain ⟨f1, f2, n', f3, f4, f5⟩ := fill_new hn h1 hd d hl (of_decide_eq_true (ov_room i hi)) (ovE 0 d) rfl rfl
  rw [he]
  refine ⟨f1, ?_⟩
  obtain ⟨e1, e2, e3, e4, e5, e6, e7, e8, e9⟩ := ov_endM i hi
  have g1 := f2 1 (by decide)
  have g2 := f2 2 (by decide)
  have s3 : statP (fillP (ovM i) 3 (ovE 0 d)).1 3 = (n'.v, 0) := by unfold statP; rw [f3]
  refine ⟨(find_nd_eq g1 _).trans e1, by rw [s3], by rw [s3]; exact f5.trans hm, by rw [s3]; show (n'.v.kind == 6) = _; rw [f4]; rfl, (find_nd_eq g1 _).trans e5, by rw [stat_nd_eq g2]; exact e6, by rw [stat_nd_eq g2]; exact e7, by rw [stat_nd_eq g2]; exact e8, fun h => (read_nd_eq g2 _ _).trans (e9 h)⟩
theorem ov_spotD (i : Nat) (hi : i = 2 ∨ i = 3) : spotP (ovT3 i) 1 [] [110] = (ovT3 i, some ⟨1, [110], 2, true, true⟩, 0) := by
  rcases hi with rfl | rfl
  all_goals kernel_rfl
theorem ov_endD (i : Nat) (hi : i = 2 ∨ i = 3) : endD (ovT3 i, 13) 0 := by
  rcases hi with rfl | rfl
  all_goals exact ⟨by kernel_rfl, by kernel_rfl, by kernel_rfl, by kernel_rfl⟩
theorem ov_fileD (i : Nat) (hi : i = 2 ∨ i = 3) (d : List UInt8) (hl : d.length ≤ 100) : endD (oneP (ovT3 i) 1 (ovE 0 d)) 0 := by
  have he : oneP (ovT3 i) 1 (ovE 0 d) = (ovT3 i, 13) := by
    rw [ov_one0 _ d hl, ov_spotD i hi]
    rfl
  rw [he]
  exact ov_endD i hi
theorem ek_1 (j : Nat) (hj : j < 6) (h0 : j ≠ 0) : ekO j ≠ 1 := by
  obtain rfl | rfl | rfl | rfl | rfl : j = 1 ∨ j = 2 ∨ j = 3 ∨ j = 4 ∨ j = 5 := by omega
  all_goals decide
/-- All ends. -/
theorem ov_allD (i : Nat) (hi8 : i < 8) (hk : ovK i = 6) (j : Nat) (hj : j < 6) (d : List UInt8) (hl : d.length ≤ 100) : endD (oneP (ovT3 i) 1 (ovE j d)) j := by
  have hi : i = 2 ∨ i = 3 := by
    obtain rfl | rfl | rfl | rfl | rfl | rfl | rfl | rfl : i = 0 ∨ i = 1 ∨ i = 2 ∨ i = 3 ∨ i = 4 ∨ i = 5 ∨ i = 6 ∨ i = 7 := by omega
    all_goals first | (exact absurd hk (by decide)) | omega
  by_cases h0 : j = 0
  · subst h0; exact ov_fileD i hi d hl
  · rw [ovE_same j (ek_1 j hj h0) d]; exact ov_dirs i hi j hj h0
theorem ov_allN (i : Nat) (hi8 : i < 8) (hk : ovK i ≠ 6) (j : Nat) (hj : j < 6) (d : List UInt8) (hl : d.length ≤ 100) : (oneP (ovT3 i) 1 (ovE j d)).2 = 0 ∧ endN (oneP (ovT3 i) 1 (ovE j d)).1 i j := by
  have hi : i = 0 ∨ i = 1 ∨ i = 4 ∨ i = 5 ∨ i = 6 ∨ i = 7 := by
    obtain rfl | rfl | rfl | rfl | rfl | rfl | rfl | rfl : i = 0 ∨ i = 1 ∨ i = 2 ∨ i = 3 ∨ i = 4 ∨ i = 5 ∨ i = 6 ∨ i = 7 := by omega
    all_goals first | (exact absurd rfl hk) | omega
  by_cases h0 : j = 0
  · subst h0; exact ov_file i hi d hl
  · rw [ovE_same j (ek_1 j hj h0) d]; exact ov_none i hi j hj h0
set_option maxHeartbeats 8000000 in
theorem extractOver_core (a b : Int) (ao : Option Addr) (n cap : Nat) (d : List UInt8) (w : World) (ha : okI a) (hb : okI b) (hrd : Reads w ao (nb d)) (hnd : n = d.length) (hnc : n ≤ cap) (hcm : cap ≤ maxLen) (hno : ao = none → cap = 0) : Calls Tryz.prog 3 #[.int .i64 a, .int .i64 b, .slice ao n cap] w fun e w' => e = .returned (.bool true) ∧ Kept NoB w w' := by
  have kc := fun (w : World) (C : Array Value) (n c : Nat) => Lib.run_convert_bytes_const (P := Tryz.prog) w 22 5 C n c Tryz.underlying22 Tryz.underlying5
  have HNew := Lib.hid (new_any 1000 w (by decide))
  have HAw := Lib.hid awake24_any
  have HRd := Lib.hid hrd; have HNd := Lib.hid hnd; have HNo := Lib.hid hno
  have hnb : (n : Int) ≤ 9223372036854775807 := by unfold maxLen at hcm; omega
  clear hrd hnd hno
  go_enter Tryz.func3, Tryz.ntmps3
  go_wp2_with fail
  refine HNew.out.mono ?_
  rintro e w1 ⟨f, rfl, hf1, hk1⟩
  have HF1 := Lib.hid hf1; have HK1 := Lib.hid hk1
  clear hf1 hk1 HNew
  by_cases hl : (100 : Int) < (n : Int)
  · go_wp2_with (go_at_call 8; refine (HAw.out _).mono ?_; rintro e w2 ⟨rfl, hk2⟩)
    go_ret
    exact ⟨rfl, HK1.out.trans hk2⟩
  have HL : Hid (d.length ≤ 100) := Lib.hid (by have := HNd.out; omega)
  obtain ⟨i, hi⟩ : ∃ i : Nat, (i : Int) = a % 8 := ⟨(a % 8).toNat, by omega⟩
  have HI8 : Hid (i < 8) := Lib.hid (by omega)
  have HNode := Lib.hid (node13_any a ha i hi w1)
  have HN1 := Lib.hid (nv_one (ovN i))
  clear hi
  go_upto_region 5 with (first | (go_at_call 9; refine HNode.out.mono ?_; rintro e w2 ⟨rfl, hk2⟩) | (refine wpList_store_row rfl 27 (.tmp 8) (.tmp 40) rfl w2.heap.size (nvC (ovN i)).toArray rfl rfl _ _ (heap_alloc_new _ _) infoNd rfl HN1.out ?_))
  clear hl
  obtain ⟨wA, hwA⟩ : ∃ wA, wA = (w2.alloc (.cells #[.int .i64 0, .int .i64 0, .int .i64 0, .int .i64 0, .int .i64 0, .string { data := #[] }, .int .i64 0, .int .i64 0, .int .i64 0, .int .i64 0, .int .i64 0] 27)).setRow w2.heap.size (nvC (ovN i)).toArray := ⟨_, rfl⟩
  rw [← hwA]
  have hkA : Kept NoB w2 wA := by rw [hwA]; exact ((Kept.refl NoB w2).alloc _).setRow (.inr (Nat.le_refl _)) _
  have obA : wA.heap[w2.heap.size]? = some (.cells (nvC (ovN i)).toArray 27 (0, 0)) := by rw [hwA]; exact setRow_heap _ _ _ _ _ _ (heap_alloc_new _ _)
  obtain ⟨gA, hgA⟩ : ∃ g, g = w2.heap.size := ⟨_, rfl⟩
  rw [← hgA] at obA ⊢
  obtain ⟨S, hS⟩ : ∃ S, S = NewB w w1 := ⟨_, rfl⟩
  have HSl : Hid (∀ k, S k → w.heap.size ≤ k ∧ k < w1.heap.size) := Lib.hid (by rw [hS]; exact fun k e => e)
  have HFA : Hid (FsSt S wA f (newT 1000)) := Lib.hid (by
    rw [hS]
    exact ((HF1.out.mono (fun k e => by rcases e with e | e; exact e.elim; exact e)).keptNo hk2).keptNo hkA)
  have HKwA := Lib.hid ((HK1.out.trans hk2).trans hkA)
  have HgS : Hid (¬ S gA) := Lib.hid (fun e => by
    have q1 := (HSl.out gA e).2
    have q2 := hk2.size
    omega)
  have HLowA : Hid (∀ k, S k → k < wA.heap.size) := Lib.hid (fun k e => by
    have q1 := (HSl.out k e).2
    have q2 := (hk2.trans hkA).size
    omega)
  have HObA := Lib.hid obA
  have HEnd : Hid (∀ W, Kept S wA W → Kept NoB w W) := Lib.hid (fun W hW => keep_onS (S := NoB) HKwA.out hW (fun k hk e => by have := (HSl.out k e).1; omega))
  have HGn : Hid (∀ W, Kept S wA W → W.heap[gA]? = some (.cells (nvC (ovN i)).toArray 27 (0, 0))) := Lib.hid (fun W hW => hW.obj HObA.out HgS.out)
  clear hwA hkA obA hgA hS hk2 HNode
  have HM1 : Hid (Calls Tryz.prog 10 #[.pointer (some ⟨f, 0, none⟩), .int .i64 1, .string { data := #[110] }, .agg (nvC (ovN i)).toArray] wA fun e w' => e = .returned (.tuple #[.int .i64 2, .int .i64 0]) ∧ Turn S wA w' f (ovT1 i)) := Lib.hid (by
    have := make_any HFA.out 1 (by decide) [110] (by decide) (ovN i) ⟨show (-9223372036854775808 : Int) ≤ 0 by decide, show (0 : Int) ≤ 9223372036854775807 by decide⟩ (by decide)
    rw [ov_m1 i HI8.out] at this
    exact this)
  have HC1 : Hid (Tame 1 (newT 1000) (ovT1 i)) := Lib.hid (tame_make _ _ _ _)
  have HC2 : Hid (Tame 2 (newT 1000) (ovT2 i)) := Lib.hid (HC1.out.trans (tame_write _ _ _ _))
  have HC3 : Hid (Tame 3 (newT 1000) (ovT3 i)) := Lib.hid (by
    unfold ovT3
    split
    · exact HC2.out.mono (by omega)
    · exact HC2.out.trans (tame_link _ _ _ _))
  have hn0 : (newT 1000).clock = 0 ∧ (newT 1000).quota = 1000 := ⟨rfl, rfl⟩
  have HCk : Hid ((ovT1 i).clock ≤ 1 ∧ (ovT1 i).quota = 1000 ∧ (ovT2 i).clock ≤ 2 ∧ (ovT3 i).clock ≤ 3 ∧ (ovT3 i).quota = 1000) := Lib.hid (by
    have q1 := HC1.out; have q2 := HC2.out; have q3 := HC3.out
    refine ⟨?_, ?_, ?_, ?_, ?_⟩
    · have := q1.2.2; omega
    · rw [q1.1]; exact hn0.2
    · have := q2.2.2; omega
    · have := q3.2.2; omega
    · rw [q3.1]; exact hn0.2)
  clear HC1 HC2 HC3 hn0
  go_upto_region 6 with (first | (refine load_rowN (by rfl) (.tmp 8) rfl gA rfl (ovN i) HObA.out ?_) | (go_at_call 10; refine HM1.out.mono ?_; rintro e w3 ⟨rfl, ht3⟩))
  have HT3 := Lib.hid ht3
  clear ht3 HM1
  obtain ⟨wr, hwr⟩ : ∃ wr, wr = (writeP (ovT1 i) 2 0 [111, 108, 100]).2 := ⟨_, rfl⟩
  have HWr : Hid (∀ W, W = w3.alloc (.cells #[.int .u8 111, .int .u8 108, .int .u8 100] 5 (3, 4)) → Calls Tryz.prog 11 #[.pointer (some ⟨f, 0, none⟩), .int .i64 2, .int .i64 0, .slice (some ⟨w3.heap.size, 0, none⟩) 3 3] W fun e w' => e = .returned (.int .i64 wr) ∧ Turn S wA w' f (ovT2 i)) := Lib.hid (fun W hW => by
    have hkW : Kept NoB w3 W := by rw [hW]; exact (Kept.refl _ _).alloc _
    have := write_all (HT3.out.1.keptNo hkW) 2 (by decide) 0 (by decide) [111, 108, 100] (some ⟨w3.heap.size, 0, none⟩) 3 (by rw [hW]; exact reads_made w3 [111, 108, 100] _ _ rfl) (by decide) (by decide) (by decide) (fun _ x hx e => by
      cases hx
      have q1 := HT3.out.2.size
      rcases e with e | e
      · have := HLowA.out _ e; dsimp only at this; omega
      · have := e.2; dsimp only at this; omega) (by have := HCk.out.1; omega) (by rw [HCk.out.2.1]; decide)
    rw [hwr]
    exact this.mono fun e w' ⟨q1, q2⟩ => ⟨q1, HT3.out.next hkW q2⟩)
  clear hwr
  go_upto_region 9 with (go_at_call 11; refine (HWr.out _ rfl).mono ?_; rintro e w4 ⟨rfl, ht4⟩)
  have HT4 := Lib.hid ht4
  clear ht4 HWr HT3 kc
  obtain ⟨kk, hkk⟩ : ∃ kk, kk = ovK i := ⟨_, rfl⟩
  have c0 : w4.cell? ⟨gA, 0, none⟩ = some (.int .i64 kk) := by rw [obj_cell (HGn.out _ HT4.out.2), hkk]; rfl
  have HKk := Lib.hid hkk
  clear hkk
  go_cut [62] (fun s wx => s = .bool false ∧ Hid (Turn S wA wx f (ovT3 i)))
  case first =>
    by_cases h6 : kk = 6
    · have e6 : (kk != 6) = false := by simpa using h6
      have HT3e : Hid (ovT3 i = ovT2 i) := Lib.hid (by unfold ovT3; rw [if_pos (by rw [← HKk.out]; exact h6)])
      clear h6
      go_wp2
      all_goals go_meet
      all_goals exact ⟨rfl, Lib.hid (by rw [HT3e.out]; exact HT4.out)⟩
    · have e6 : (kk != 6) = true := by simpa using h6
      have HLk : Hid (Calls Tryz.prog 12 #[.pointer (some ⟨f, 0, none⟩), .int .i64 1, .string { data := #[97, 108, 115, 111] }, .int .i64 2] w4 fun e w' => e = .returned (.int .i64 0) ∧ Turn S wA w' f (ovT3 i)) := Lib.hid (by
        have := link_any HT4.out.1 1 (by decide) [97, 108, 115, 111] (by decide) 2 (by decide) (by have := HCk.out.2.2.1; omega)
        rw [ov_lk i HI8.out (by rw [← HKk.out]; exact h6)] at this
        have he : ovT3 i = (linkP (ovT2 i) 1 [97, 108, 115, 111] 2).1 := by unfold ovT3; rw [if_neg (by rw [← HKk.out]; exact h6)]
        rw [he]
        exact this.mono fun e w' ⟨q1, q2⟩ => ⟨q1, HT4.out.step q2⟩)
      clear h6
      go_wp2_with (go_at_call 12; refine HLk.out.mono ?_; rintro e w5 ⟨rfl, ht5⟩)
      all_goals go_meet
      all_goals exact ⟨rfl, Lib.hid ht5⟩
  case rest =>
    obtain ⟨rfl, HT5⟩ := hcut
    clear HT4 c0
    obtain ⟨wB, hwB⟩ : ∃ wB, wB = wc := ⟨_, rfl⟩
    subst hwB
    have m8 : bits .and .i64 b 255 = b % 256 := i64_maskO b 8 (by decide)
    obtain ⟨j, hj⟩ : ∃ j : Nat, (j : Int) = b % 256 % 6 := ⟨(b % 256 % 6).toNat, by omega⟩
    have hj6 : j < 6 := by omega
    have hrem : b % 256 % 6 = (j : Int) := hj.symm
    obtain ⟨kj, hkj⟩ : ∃ kj, kj = ekO j := ⟨_, rfl⟩
    have hcj : (wB.alloc (.cells #[.int .i64 1, .int .i64 6, .int .i64 3, .int .i64 7, .int .i64 8, .int .i64 4] 3)).cell? ⟨wB.heap.size, j, none⟩ = some (.int .i64 kj) := by
      rw [cell_of_row _ _ _ _ _ (0, 0) (heap_alloc_new _ _), hkj]
      obtain rfl | rfl | rfl | rfl | rfl | rfl : j = 0 ∨ j = 1 ∨ j = 2 ∨ j = 3 ∨ j = 4 ∨ j = 5 := by omega
      all_goals rfl
    have HKj := Lib.hid hkj
    clear hj hkj
    go_upto_region 12 with fail
    clear hcj hrem m8
    obtain ⟨wD, hwD⟩ : ∃ wD, wD = wB.alloc (.cells #[.int .i64 1, .int .i64 6, .int .i64 3, .int .i64 7, .int .i64 8, .int .i64 4] 3) := ⟨_, rfl⟩
    rw [← hwD]
    have HKD : Hid (Kept NoB wB wD) := Lib.hid (by rw [hwD]; exact (Kept.refl NoB wB).alloc _)
    clear hwD
    go_upto_block 0 with fail
    obtain ⟨wE, hwE⟩ : ∃ wE, wE = wD.alloc (.cells #[.int .i64 kj, .string { data := #[110] }, .string { data := #[] }, .int .i64 2, .int .i64 0, .int .i64 0, .int .i64 0, .int .i64 0, .int .i64 0, .int .i64 0, .slice none 0 0, .slice none 0 0] 38) := ⟨_, rfl⟩
    rw [← hwE]
    have hkE : Kept NoB wB wE := by rw [hwE]; exact HKD.out.alloc _
    have hoE : wE.heap[wD.heap.size]? = some (.cells #[.int .i64 kj, .string { data := #[110] }, .string { data := #[] }, .int .i64 2, .int .i64 0, .int .i64 0, .int .i64 0, .int .i64 0, .int .i64 0, .int .i64 0, .slice none 0 0, .slice none 0 0] 38 (0, 0)) := by rw [hwE]; exact heap_alloc_new _ _
    obtain ⟨g, hg⟩ : ∃ g, g = wD.heap.size := ⟨_, rfl⟩
    rw [← hg] at hoE ⊢
    have hgc : wB.heap.size ≤ g := by rw [hg]; exact HKD.out.size
    have hglt : g < wE.heap.size := obj_lt hoE
    have HWc := Lib.hid (HEnd.out _ HT5.out.2)
    clear hwE hg HKD
    go_cut [12] from 72 to 86 (fun s wx => s = .pointer (some ⟨g, 0, none⟩) ∧ Hid (∃ pa pc, wx.heap[g]? = some (.cells (entC (ovE j d) (.slice pa (ovE j d).pcs.length pc) (.slice none 0 0)).toArray 38 (0, 0)) ∧ RdA (Grow S wA wB) wx pa (ovE j d).pcs ∧ (ovE j d).pcs.length ≤ pc ∧ pc ≤ maxLen ∧ Kept NoB wB wx))
    case first =>
      by_cases k1 : kj = 1
      · have e1 : (kj == 1) = true := by simpa using k1
        have hj1 : ekO j = 1 := by rw [← HKj.out]; exact k1
        have x9 : wE.cell? ⟨g, 9, none⟩ = some (.int .i64 0) := by rw [obj_cell hoE]; rfl
        have g9 := obj_free hoE 9
        obtain ⟨wG, hwG⟩ : ∃ wG, wG = wE.setCell ⟨g, 9, none⟩ (.int .i64 (n : Int)) := ⟨_, rfl⟩
        have hoG : wG.heap[g]? = some (.cells #[.int .i64 kj, .string { data := #[110] }, .string { data := #[] }, .int .i64 2, .int .i64 0, .int .i64 0, .int .i64 0, .int .i64 0, .int .i64 0, .int .i64 (n : Int), .slice none 0 0, .slice none 0 0] 38 (0, 0)) := by
          rw [hwG]; exact obj_set hoE 9 (.int .i64 (n : Int))
        have hkG : Kept NoB wB wG := by rw [hwG]; exact hkE.setCell (.inr hgc) _
        have HWG := Lib.hid hwG
        have hsG : wG.heap.size = wE.heap.size := by rw [hwG]; simp
        by_cases h0 : n = 0
        · have hz : ¬ (0 : Int) < (n : Int) := by omega
          have hd0 : d = [] := List.length_eq_zero_iff.1 (by have := HNd.out; omega)
          have HRes : Hid (∃ pa pc, wG.heap[g]? = some (.cells (entC (ovE j d) (.slice pa (ovE j d).pcs.length pc) (.slice none 0 0)).toArray 38 (0, 0)) ∧ RdA (Grow S wA wB) wG pa (ovE j d).pcs ∧ (ovE j d).pcs.length ≤ pc ∧ pc ≤ maxLen ∧ Kept NoB wB wG) := Lib.hid (by
            have hE : ovE j d = ⟨kj, [110], [], 2, 0, 0, 0, 0, 0, (n : Int), []⟩ := by
              unfold ovE
              rw [if_pos hj1, if_pos hj1, if_pos hd0, if_neg (by rw [hj1]; decide), HNd.out, HKj.out]
            rw [hE]
            exact ⟨none, 0, hoG, (fun q hq => absurd hq (by simp)), Nat.le_refl _, by unfold maxLen; omega, hkG⟩)
          clear k1 h0 hd0 hj1 hoG hkG hwG hsG hoE hkE hgc hglt
          go_wp2
          all_goals go_meet
          all_goals exact ⟨rfl, HWG.out ▸ HRes⟩
        · have hz : (0 : Int) < (n : Int) := by omega
          have hd0 : d ≠ [] := fun e => h0 (by rw [HNd.out, e]; rfl)
          obtain ⟨wH, hwH⟩ : ∃ wH, wH = wG.alloc (.cells #[.int .i64 0, .slice ao n cap] 40) := ⟨_, rfl⟩
          have hkH : Kept NoB wG wH := by rw [hwH]; exact (Kept.refl NoB wG).alloc _
          have hoH : wH.heap[wG.heap.size]? = some (.cells #[.int .i64 0, .slice ao n cap] 40 (0, 0)) := by rw [hwH]; exact heap_alloc_new _ _
          rw [hsG] at hoH
          have hoGH := hkH.obj hoG id
          have x10 : wH.cell? ⟨g, 10, none⟩ = some (.slice none 0 0) := by rw [obj_cell hoGH]; rfl
          have g10 := obj_free hoGH 10
          obtain ⟨wI, hwI⟩ : ∃ wI, wI = wH.setCell ⟨g, 10, none⟩ (.slice (some ⟨wE.heap.size, 0, none⟩) 1 1) := ⟨_, rfl⟩
          have HRes : Hid (∃ pa pc, wI.heap[g]? = some (.cells (entC (ovE j d) (.slice pa (ovE j d).pcs.length pc) (.slice none 0 0)).toArray 38 (0, 0)) ∧ RdA (Grow S wA wB) wI pa (ovE j d).pcs ∧ (ovE j d).pcs.length ≤ pc ∧ pc ≤ maxLen ∧ Kept NoB wB wI) := Lib.hid (by
            have hE : ovE j d = ⟨kj, [110], [], 2, 0, 0, 0, 0, 0, (n : Int), [(0, d)]⟩ := by
              unfold ovE
              rw [if_pos hj1, if_pos hj1, if_neg hd0, if_neg (by rw [hj1]; decide), HNd.out, HKj.out]
            rw [hE]
            have hkI : Kept NoB wB wI := by rw [hwI]; exact (hkG.trans hkH).setCell (.inr hgc) _
            have hne : wE.heap.size ≠ g := by omega
            have hkHI : Kept (OneB g) wH wI := by rw [hwI]; exact Kept.setCell (S := OneB g) (p := ⟨g, 10, none⟩) (Kept.refl _ wH) (.inl rfl) _
            have hoI := hkHI.obj hoH hne
            refine ⟨some ⟨wE.heap.size, 0, none⟩, 1, ?_, ?_, Nat.le_refl _, by unfold maxLen; omega, hkI⟩
            · rw [hwI]
              exact obj_set hoGH 10 (.slice (some ⟨wE.heap.size, 0, none⟩) 1 1)
            · intro q hq
              have hq0 : q = 0 := by simp at hq; omega
              subst hq0
              have hrw : Reads wI ao (nb d) := HRd.out.keptNo (HWc.out.trans hkI)
              refine ⟨wE.heap.size, 0, ao, cap, rfl, ?_, ?_, ?_, hrw, HNo.out, ?_, ?_, hcm⟩
              · intro e
                have q1 := hkE.size
                have q2 := HT5.out.2.size
                rcases e with e | e
                · have := HLowA.out _ e; omega
                · have := e.2; omega
              · rw [obj_cell hoI]; rfl
              · show wI.cell? ⟨wE.heap.size, 1, none⟩ = some (.slice ao d.length cap)
                rw [obj_cell hoI, ← HNd.out]; rfl
              · intro x hx
                have hlen : 0 < (nb d).length := by rw [nb_len, ← HNd.out]; omega
                have hcell := HRd.out.2 x hx 0 hlen
                have hlt := World.block_lt_of_cell? w _ hcell
                have hbk : (x.add 0).block = x.block := by unfold Addr.add; split <;> rfl
                rw [hbk] at hlt
                have q0 := HKwA.out.size
                have q1 := hkI.size
                have q2 := HT5.out.2.size
                refine ⟨fun e => ?_, by omega⟩
                rcases e with e | e
                · have := (HSl.out _ e).1; omega
                · have := e.1; omega
              · show d.length ≤ cap
                rw [← HNd.out]; exact hnc)
          have HWH := Lib.hid hwH; have HWI := Lib.hid hwI
          rw [hwH, hwG] at x10 g10
          clear k1 h0 hd0 hj1 hoG hkG hwG hsG hoE hkE hgc hglt hkH hoH hoGH hwH hwI
          go_wp2
          all_goals go_meet
          all_goals exact ⟨rfl, by rw [HWI.out, HWH.out, HWG.out] at HRes; exact HRes⟩
      have e1 : (kj == 1) = false := by simpa using k1
      have hj1 : ekO j ≠ 1 := by rw [← HKj.out]; exact k1
      by_cases k3 : kj = 3
      · have e3 : (kj == 3) = true := by simpa using k3
        have x2 : wE.cell? ⟨g, 2, none⟩ = some (.string ⟨#[]⟩) := by rw [obj_cell hoE]; rfl
        have g2 := obj_free hoE 2
        have HRes : Hid (∃ pa pc, (wE.setCell ⟨g, 2, none⟩ (.string { data := #[97, 108, 115, 111] })).heap[g]? = some (.cells (entC (ovE j d) (.slice pa (ovE j d).pcs.length pc) (.slice none 0 0)).toArray 38 (0, 0)) ∧ RdA (Grow S wA wB) (wE.setCell ⟨g, 2, none⟩ (.string { data := #[97, 108, 115, 111] })) pa (ovE j d).pcs ∧ (ovE j d).pcs.length ≤ pc ∧ pc ≤ maxLen ∧ Kept NoB wB (wE.setCell ⟨g, 2, none⟩ (.string { data := #[97, 108, 115, 111] }))) := Lib.hid (by
          have hE : ovE j d = ⟨kj, [110], [97, 108, 115, 111], 2, 0, 0, 0, 0, 0, 0, []⟩ := by
            unfold ovE
            rw [if_neg hj1, if_neg hj1, if_pos (by rw [← HKj.out]; exact k3), HKj.out]
          rw [hE]
          exact ⟨none, 0, obj_set hoE 2 (.string { data := #[97, 108, 115, 111] }), (fun q hq => absurd hq (by simp)), Nat.le_refl _, by unfold maxLen; omega, hkE.setCell (.inr hgc) _⟩)
        clear k1 hj1 hoE hkE hgc hglt k3
        go_wp2
        all_goals go_meet
        all_goals exact ⟨rfl, HRes⟩
      · have e3 : (kj == 3) = false := by simpa using k3
        have HRes : Hid (∃ pa pc, wE.heap[g]? = some (.cells (entC (ovE j d) (.slice pa (ovE j d).pcs.length pc) (.slice none 0 0)).toArray 38 (0, 0)) ∧ RdA (Grow S wA wB) wE pa (ovE j d).pcs ∧ (ovE j d).pcs.length ≤ pc ∧ pc ≤ maxLen ∧ Kept NoB wB wE) := Lib.hid (by
          have hE : ovE j d = ⟨kj, [110], [], 2, 0, 0, 0, 0, 0, 0, []⟩ := by
            unfold ovE
            rw [if_neg hj1, if_neg hj1, if_neg (by rw [← HKj.out]; exact k3), HKj.out]
          rw [hE]
          exact ⟨none, 0, hoE, (fun q hq => absurd hq (by simp)), Nat.le_refl _, by unfold maxLen; omega, hkE⟩)
        clear k1 hj1 hoE hkE hgc hglt k3
        go_wp2
        all_goals go_meet
        all_goals exact ⟨rfl, HRes⟩
    case rest =>
      obtain ⟨rfl, HX⟩ := hcut
      obtain ⟨pa, pc, hx1, hx2, hx3, hx4, hx5⟩ := HX.out
      obtain ⟨R, hR⟩ : ∃ R, R = oneP (ovT3 i) 1 (ovE j d) := ⟨_, rfl⟩
      have HOn : Hid (Calls Tryz.prog 13 #[.pointer (some ⟨f, 0, none⟩), .int .i64 1, .agg (entC (ovE j d) (.slice pa (ovE j d).pcs.length pc) (.slice none 0 0)).toArray] wc fun e w' => e = .returned (.int .i64 R.2) ∧ Turn S wA w' f R.1) := Lib.hid (by
        have hI : EntI (ovE j d) := by
          unfold ovE
          refine ⟨by show 1 ≤ 1000000000; decide, ?_, ⟨show (-9223372036854775808 : Int) ≤ 0 by decide, show (0 : Int) ≤ 9223372036854775807 by decide⟩, ?_⟩
          · show (if ekO j = 3 then [97, 108, 115, 111] else ([] : List UInt8)).length ≤ 1000000000
            split <;> decide
          · show okI (if ekO j = 1 then (d.length : Int) else 0)
            have := HL.out
            split
            · exact ⟨by omega, by omega⟩
            · exact ⟨by decide, by decide⟩
        have hP : IntP (ovE j d).pcs := by
          intro q hq
          have hq2 : q ∈ (if ekO j = 1 then (if d = [] then ([] : List Pc) else [(0, d)]) else []) := hq
          split at hq2
          · split at hq2
            · cases hq2
            · simp at hq2; subst hq2; exact ⟨show (-9223372036854775808 : Int) ≤ 0 by decide, show (0 : Int) ≤ 9223372036854775807 by decide⟩
          · cases hq2
        have := one_any (HT5.out.1.keptNo hx5) (fun k e => by
          have q1 := hx5.size
          have q2 := HT5.out.2.size
          rcases e with e | e
          · have := HLowA.out k e; omega
          · have := e.2; omega) 1 ⟨by decide, by decide⟩ (ovE j d) hI pa pc none 0 hx2 hP hx3 hx4 (by have := HCk.out.2.2.2.1; omega) (by rw [HCk.out.2.2.2.2]; decide)
        rw [← hR] at this
        exact this.mono fun e w' ⟨q1, q2⟩ => ⟨q1, HT5.out.next hx5 q2⟩)
      have HX1 := Lib.hid hx1
      have HR := Lib.hid hR
      clear hx1 hx2 hx3 hx4 hx5 HX hR
      go_upto_region 21 with (first | (refine load_rowE (by rfl) (.tmp 12) rfl g rfl (ovE j d) (.slice pa (ovE j d).pcs.length pc) (.slice none 0 0) HX1.out ?_) | (go_at_call 13; refine HOn.out.mono ?_; rintro e w6 ⟨rfl, ht6⟩))
      have HT6 := Lib.hid ht6
      clear ht6 HOn HX1 HT5
      have HDj : Hid (dirE j = (kj == 6 || kj == 8)) := Lib.hid (by unfold dirE; rw [HKj.out])
      obtain ⟨dj, hdj⟩ : ∃ b, b = dirE j := ⟨_, rfl⟩
      rw [← hdj] at HDj
      have HDe := Lib.hid hdj
      clear hdj
      go_cut [14] (fun s wx => s = .bool dj ∧ wx = w6)
      case first =>
        by_cases k6 : kj = 6
        · have e6 : (kj == 6) = true := by simpa using k6
          rw [e6, Bool.true_or] at HDj
          go_wp2
          all_goals go_meet
          all_goals exact ⟨by rw [HDj.out], rfl⟩
        · have e6 : (kj == 6) = false := by simpa using k6
          rw [e6, Bool.false_or] at HDj
          go_wp2
          all_goals go_meet
          all_goals exact ⟨by rw [HDj.out], rfl⟩
      case rest =>
        obtain ⟨rfl, hw6⟩ := hcut
        rw [hw6]
        clear hw6
        obtain ⟨R1, R2⟩ := R
        dsimp only at HT6
        by_cases h6 : kk = 6
        · have h6k : ovK i = 6 := by rw [← HKk.out]; exact h6
          have hend := ov_allD i HI8.out h6k j hj6 d HL.out
          rw [← HR.out, endD, ← HDe.out] at hend
          obtain ⟨e1, e2, e3, e4⟩ := hend
          dsimp only at e1 e2 e3 e4
          have HFd : Hid (Calls Tryz.prog 14 #[.pointer (some ⟨f, 0, none⟩), .int .i64 1, .string { data := #[110] }] w6 fun e w' => e = .returned (.tuple #[.int .i64 2, .int .i64 0]) ∧ Kept NoB w6 w') := Lib.hid (by
            have := find_any HT6.out.1 1 (by decide) [110] (by decide)
            rw [e2] at this
            exact this)
          obtain ⟨v, hv⟩ : ∃ v, v = (statP R1 2).1 := ⟨_, rfl⟩
          have HSt : Hid (∀ W, Kept NoB w6 W → Calls Tryz.prog 15 #[.pointer (some ⟨f, 0, none⟩), .int .i64 2] W fun e w' => e = .returned (.tuple #[.agg (nvC v).toArray, .int .i64 0]) ∧ Kept NoB W w') := Lib.hid (fun W hW => by
            have := stat_any (HT6.out.1.keptNo hW) 2 (by decide)
            rw [e3, ← hv] at this
            exact this)
          rw [← hv] at e4
          have HV1 := Lib.hid (nv_one v)
          have HE1 := Lib.hid e1; have HE4 := Lib.hid e4
          clear e1 e2 e3 e4 hv
          go_upto_region 24 with (first | (go_at_call 14; refine HFd.out.mono ?_; rintro e w7 ⟨rfl, hk7⟩) | (go_at_call 15; refine (HSt.out _ hk7).mono ?_; rintro e w8 ⟨rfl, hk8⟩) | (refine wpList_store_row rfl 27 (.tmp 17) (.tmp 105) rfl w8.heap.size (nvC v).toArray rfl rfl _ _ (heap_alloc_new _ _) infoNd rfl HV1.out ?_))
          obtain ⟨w9, hw9⟩ : ∃ w9, w9 = (w8.alloc (.cells #[.int .i64 0, .int .i64 0, .int .i64 0, .int .i64 0, .int .i64 0, .string { data := #[] }, .int .i64 0, .int .i64 0, .int .i64 0, .int .i64 0, .int .i64 0] 27)).setRow w8.heap.size (nvC v).toArray := ⟨_, rfl⟩
          rw [← hw9]
          have hk9 : Kept NoB w8 w9 := by rw [hw9]; exact ((Kept.refl NoB w8).alloc _).setRow (.inr (Nat.le_refl _)) _
          have ob9 : w9.heap[w8.heap.size]? = some (.cells (nvC v).toArray 27 (0, 0)) := by rw [hw9]; exact setRow_heap _ _ _ _ _ _ (heap_alloc_new _ _)
          have y1 : w9.cell? ⟨w8.heap.size, 1, none⟩ = some (.int .i64 v.mode) := by rw [obj_cell ob9]; rfl
          have HT9 := Lib.hid (HT6.out.kept ((hk7.trans hk8).trans hk9))
          have y0 : w9.cell? ⟨gA, 0, none⟩ = some (.int .i64 kk) := by rw [obj_cell (HGn.out _ HT9.out.2), HKk.out]; rfl
          obtain ⟨md, hmd⟩ : ∃ m, m = v.mode := ⟨_, rfl⟩
          rw [← hmd] at y1
          have HMd := Lib.hid hmd
          subst h6
          have HFin := Lib.hid (HEnd.out _ HT9.out.2)
          clear hw9 hk7 hk8 hk9 ob9 hmd HFd HSt
          cases dj
          · have hr2 : R2 = 13 := HE1.out
            have hmd1 : md = 1 := by rw [HMd.out]; exact HE4.out
            subst hr2 hmd1
            go_wp2_with (go_at_call 8; refine (HAw.out _).mono ?_; rintro e w10 ⟨rfl, hk10⟩)
            go_ret
            exact ⟨rfl, HFin.out.trans hk10⟩
          · have hr2 : R2 = 0 := HE1.out
            have hmd1 : md = 2 := by rw [HMd.out]; exact HE4.out
            subst hr2 hmd1
            go_wp2_with (go_at_call 8; refine (HAw.out _).mono ?_; rintro e w10 ⟨rfl, hk10⟩)
            go_ret
            exact ⟨rfl, HFin.out.trans hk10⟩
        · have h6k : ovK i ≠ 6 := by rw [← HKk.out]; exact h6
          have e6 : (kk == 6) = false := by simpa using h6
          obtain ⟨hr2, hend⟩ := ov_allN i HI8.out h6k j hj6 d HL.out
          rw [← HR.out] at hr2 hend
          rw [endN, ← HDe.out] at hend
          dsimp only at hr2 hend
          subst hr2
          obtain ⟨e1, e2, e3, e4, e5, e7, e8, e9, e10⟩ := hend
          have HFd : Hid (Calls Tryz.prog 14 #[.pointer (some ⟨f, 0, none⟩), .int .i64 1, .string { data := #[110] }] w6 fun e w' => e = .returned (.tuple #[.int .i64 3, .int .i64 0]) ∧ Kept NoB w6 w') := Lib.hid (by
            have := find_any HT6.out.1 1 (by decide) [110] (by decide)
            rw [e1] at this
            exact this)
          obtain ⟨v, hv⟩ : ∃ v, v = (statP R1 3).1 := ⟨_, rfl⟩
          obtain ⟨u, hu⟩ : ∃ u, u = (statP R1 2).1 := ⟨_, rfl⟩
          have HSt : Hid (∀ W, Kept NoB w6 W → Calls Tryz.prog 15 #[.pointer (some ⟨f, 0, none⟩), .int .i64 3] W fun e w' => e = .returned (.tuple #[.agg (nvC v).toArray, .int .i64 0]) ∧ Kept NoB W w') := Lib.hid (fun W hW => by
            have := stat_any (HT6.out.1.keptNo hW) 3 (by decide)
            rw [e2, ← hv] at this
            exact this)
          rw [← hv] at e3 e4
          rw [← hu] at e8 e9
          have HV1 := Lib.hid (nv_one v); have HU1 := Lib.hid (nv_one u)
          have HE3 := Lib.hid e3; have HE4 := Lib.hid e4; have HE5 := Lib.hid e5; have HE7 := Lib.hid e7; have HE8 := Lib.hid e8; have HE9 := Lib.hid e9; have HE10 := Lib.hid e10; have HU := Lib.hid hu
          clear e1 e2 e3 e4 e5 e7 e8 e9 e10 hv hu
          go_upto_region 24 with (first | (go_at_call 14; refine HFd.out.mono ?_; rintro e w7 ⟨rfl, hk7⟩) | (go_at_call 15; refine (HSt.out _ hk7).mono ?_; rintro e w8 ⟨rfl, hk8⟩) | (refine wpList_store_row rfl 27 (.tmp 17) (.tmp 105) rfl w8.heap.size (nvC v).toArray rfl rfl _ _ (heap_alloc_new _ _) infoNd rfl HV1.out ?_))
          obtain ⟨w9, hw9⟩ : ∃ w9, w9 = (w8.alloc (.cells #[.int .i64 0, .int .i64 0, .int .i64 0, .int .i64 0, .int .i64 0, .string { data := #[] }, .int .i64 0, .int .i64 0, .int .i64 0, .int .i64 0, .int .i64 0] 27)).setRow w8.heap.size (nvC v).toArray := ⟨_, rfl⟩
          rw [← hw9]
          have hk9 : Kept NoB w8 w9 := by rw [hw9]; exact ((Kept.refl NoB w8).alloc _).setRow (.inr (Nat.le_refl _)) _
          have ob9 : w9.heap[w8.heap.size]? = some (.cells (nvC v).toArray 27 (0, 0)) := by rw [hw9]; exact setRow_heap _ _ _ _ _ _ (heap_alloc_new _ _)
          have HT9 := Lib.hid (HT6.out.kept ((hk7.trans hk8).trans hk9))
          have y0 : w9.cell? ⟨gA, 0, none⟩ = some (.int .i64 kk) := by rw [obj_cell (HGn.out _ HT9.out.2), HKk.out]; rfl
          obtain ⟨g9, hg9⟩ : ∃ g9, g9 = w8.heap.size := ⟨_, rfl⟩
          rw [← hg9] at ob9 ⊢
          have HO9 := Lib.hid ob9
          clear hw9 hk7 hk8 hk9 ob9 hg9 HFd HSt h6 HT6
          have HFd2 : Hid (Calls Tryz.prog 14 #[.pointer (some ⟨f, 0, none⟩), .int .i64 1, .string { data := #[97, 108, 115, 111] }] w9 fun e w' => e = .returned (.tuple #[.int .i64 2, .int .i64 0]) ∧ Kept NoB w9 w') := Lib.hid (by
            have := find_any HT9.out.1 1 (by decide) [97, 108, 115, 111] (by decide)
            rw [HE5.out] at this
            exact this)
          have HSt2 : Hid (∀ W, Kept NoB w9 W → Calls Tryz.prog 15 #[.pointer (some ⟨f, 0, none⟩), .int .i64 2] W fun e w' => e = .returned (.tuple #[.agg (nvC u).toArray, .int .i64 0]) ∧ Kept NoB W w') := Lib.hid (fun W hW => by
            have := stat_any (HT9.out.1.keptNo hW) 2 (by decide)
            rw [HE7.out, ← HU.out] at this
            exact this)
          go_upto_region 30 with (first | (go_at_call 14; refine HFd2.out.mono ?_; rintro e w10 ⟨rfl, hk10⟩) | (go_at_call 15; refine (HSt2.out _ hk10).mono ?_; rintro e w11 ⟨rfl, hk11⟩) | (refine wpList_store_row rfl 27 (.tmp 21) (.tmp 151) rfl w11.heap.size (nvC u).toArray rfl rfl _ _ (heap_alloc_new _ _) infoNd rfl HU1.out ?_))
          obtain ⟨wF, hwF⟩ : ∃ wF, wF = (w11.alloc (.cells #[.int .i64 0, .int .i64 0, .int .i64 0, .int .i64 0, .int .i64 0, .string { data := #[] }, .int .i64 0, .int .i64 0, .int .i64 0, .int .i64 0, .int .i64 0] 27)).setRow w11.heap.size (nvC u).toArray := ⟨_, rfl⟩
          rw [← hwF]
          have hkF : Kept NoB w11 wF := by rw [hwF]; exact ((Kept.refl NoB w11).alloc _).setRow (.inr (Nat.le_refl _)) _
          have obF : wF.heap[w11.heap.size]? = some (.cells (nvC u).toArray 27 (0, 0)) := by rw [hwF]; exact setRow_heap _ _ _ _ _ _ (heap_alloc_new _ _)
          have hk9F := (hk10.trans hk11).trans hkF
          have HTF := Lib.hid (HT9.out.kept hk9F)
          have z0 : wF.cell? ⟨gA, 0, none⟩ = some (.int .i64 kk) := by rw [obj_cell (HGn.out _ HTF.out.2), HKk.out]; rfl
          have ob9F := hk9F.obj HO9.out id
          obtain ⟨vk, hvk⟩ : ∃ k, k = v.kind := ⟨_, rfl⟩
          have z1 : wF.cell? ⟨g9, 1, none⟩ = some (.int .i64 2) := by rw [obj_cell ob9F, ← HE3.out]; rfl
          have z2 : wF.cell? ⟨g9, 0, none⟩ = some (.int .i64 vk) := by rw [obj_cell ob9F, hvk]; rfl
          have z9 : wF.cell? ⟨w11.heap.size, 9, none⟩ = some (.int .i64 1) := by rw [obj_cell obF, ← HE8.out]; rfl
          have zm : wF.cell? ⟨w11.heap.size, 1, none⟩ = some (.int .i64 1) := by rw [obj_cell obF, ← HE9.out]; rfl
          have hvd : (vk == 6) = dj := by rw [hvk]; exact HE4.out
          obtain ⟨gF, hgF⟩ : ∃ x, x = w11.heap.size := ⟨_, rfl⟩
          rw [← hgF] at z9 zm ⊢
          have HFin := Lib.hid (HEnd.out _ HTF.out.2)
          clear hwF hkF obF hk9F hk10 hk11 ob9F hvk hgF HFd2 HSt2 y0
          go_upto_region 32 with fail
          clear z1 z2 z9 zm hvd e6
          by_cases k1 : kk = 1
          · have hrd2 := HE10.out (by rw [← HKk.out]; exact k1)
            have HRe : Hid (Calls Tryz.prog 16 #[.pointer (some ⟨f, 0, none⟩), .int .i64 2, .int .i64 0, .int .i64 10] wF fun e w' => ∃ ar cr, e = .returned (.tuple #[.slice ar 3 cr, .int .i64 0]) ∧ Hid (ReadR wF [111, 108, 100] ar cr w')) := Lib.hid (by
              have := read_any HTF.out.1 2 (by decide) 0 (by decide) 10 (by decide)
              rw [hrd2] at this
              exact this)
            subst k1
            clear hrd2
            go_upto_region 34 with (go_at_call 16; refine HRe.out.mono ?_; rintro e wR ⟨ar, cr, rfl, hrr⟩)
            have hcv : (convert 22 9 (.slice ar 3 cr)).run Tryz.prog wR = .ok (.string { data := #[111, 108, 100] }) wR := by
              have ho := hrr.out.1
              rw [bc_nb] at ho
              refine conv_reads (own_reads (xs := nb [111, 108, 100]) (by rw [nb_len]; exact ho) (by rw [nb_len])) (by rw [nb_len]; rfl) (fun h0 => ?_)
              rcases hrr.out.1.2 with ⟨h1, h2⟩ | ⟨gx, cc, cux, h1, _⟩
              · simp at h1
              · rw [h0] at h1; simp at h1
            have HFin2 := Lib.hid (HFin.out.trans hrr.out.2.2)
            clear hrr HRe
            go_wp2_with (go_at_call 8; refine (HAw.out _).mono ?_; rintro e w12 ⟨rfl, hk12⟩)
            go_ret
            exact ⟨rfl, HFin2.out.trans hk12⟩
          · have e1 : (kk == 1) = false := by simpa using k1
            clear k1
            go_wp2_with (go_at_call 8; refine (HAw.out _).mono ?_; rintro e w12 ⟨rfl, hk12⟩)
            go_ret
            exact ⟨rfl, HFin.out.trans hk12⟩

theorem extractOver_law (v0 v1 v2 : Value) (w : World) (r0 : Arg w 3 v0) (r1 : Arg w 3 v1) (r2 : Arg w 22 v2) : Calls Tryz.prog 3 #[v0, v1, v2] w fun e w' => e = .returned (.bool true) ∧ Below w.heap.size w w' := by
  obtain ⟨x, rfl, hx⟩ := r0.int rfl
  obtain ⟨y, rfl, hy⟩ := r1.int rfl
  obtain ⟨ao, cap, bs, rfl, h1, h2, h3, h4, h5⟩ := r2.bytes Tryz.underlying22
  have hu := nb_un h4
  have hul : (un bs).length = bs.length := by simp [un]
  refine (extractOver_core x y ao bs.length cap (un bs) w (i64_bd hx) (i64_bd hy) (by rw [hu]; exact h3) hul.symm h1 h2 h5).mono ?_
  rintro e w' ⟨rfl, hk⟩
  exact ⟨rfl, hk.belowNo (Below.refl _ _)⟩
end Go.Proofs.YtgbakogihkdddaaGreatDoor
