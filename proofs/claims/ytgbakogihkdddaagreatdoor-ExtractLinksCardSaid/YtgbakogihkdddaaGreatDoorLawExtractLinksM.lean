/-
  A link that lies in the way is not followed: ExtractLinks.
-/
import Derived.Test.YtgbakogihkdddaaGreatDoorExTopM
namespace Go.Proofs.YtgbakogihkdddaaGreatDoor
open Go.RowKit Go.Shelf
set_option linter.unusedVariables false
set_option linter.unusedSimpArgs false
set_option maxRecDepth 20000

def elTg : List (List UInt8) := [[46, 46, 47, 111, 117, 116], [47, 111, 117, 116], [46, 46], [46], [46, 46, 47, 111, 117, 116, 47, 120]]
def elK : List Int := [1, 6, 7, 3, 8]
def dirV : NodeV := ⟨6, 0, 0, 0, 0, ⟨#[]⟩, 0, 0, 0, 0, 0⟩
def filV : NodeV := ⟨1, 0, 0, 0, 0, ⟨#[]⟩, 0, 0, 0, 0, 0⟩
def symT (tg : List UInt8) : NodeV := ⟨3, 0, 0, 0, 0, strB tg, 0, 0, 0, 0, 0⟩
def el1 : FsP := (makeP (newT 100) 1 [105, 110] dirV).1
def el2 : FsP := (makeP el1 1 [111, 117, 116] dirV).1
def el3 : FsP := (makeP el2 3 [120] filV).1
def el4 (tg : List UInt8) : FsP := (makeP el3 2 [108] (symT tg)).1
theorem el_m1 : (makeP (newT 100) 1 [105, 110] dirV).2 = (2, 0) := by kernel_rfl
theorem el_m2 : (makeP el1 1 [111, 117, 116] dirV).2 = (3, 0) := by kernel_rfl
theorem el_m3 : (makeP el2 3 [120] filV).2 = (4, 0) := by kernel_rfl
theorem el_m4 (j : Nat) (hj : j < 5) : (makeP el3 2 [108] (symT (elTg.getD j []))).2 = (5, 0) := by
  obtain rfl | rfl | rfl | rfl | rfl : j = 0 ∨ j = 1 ∨ j = 2 ∨ j = 3 ∨ j = 4 := by omega
  all_goals kernel_rfl
def elE (k : Int) : EntV := ⟨k, [108, 47, 120], if k = 3 then [121] else [], 0, 0, 0, 0, 0, 0, 0, []⟩
def elH1 : EntV := ⟨2, [104], [108, 47, 120], 0, 0, 0, 0, 0, 0, 0, []⟩
def elH2 : EntV := ⟨2, [104], [46, 46, 47, 111, 117, 116, 47, 120], 0, 0, 0, 0, 0, 0, 0, []⟩
theorem el_one (j : Nat) (hj : j < 5) (i : Nat) (hi : i < 5) : oneP (el4 (elTg.getD j [])) 2 (elE (elK.getD i 0)) = (el4 (elTg.getD j []), 12) := by
  obtain rfl | rfl | rfl | rfl | rfl : j = 0 ∨ j = 1 ∨ j = 2 ∨ j = 3 ∨ j = 4 := by omega
  all_goals (obtain rfl | rfl | rfl | rfl | rfl : i = 0 ∨ i = 1 ∨ i = 2 ∨ i = 3 ∨ i = 4 := by omega) <;> kernel_rfl
theorem el_h1 (j : Nat) (hj : j < 5) : oneP (el4 (elTg.getD j [])) 2 elH1 = (el4 (elTg.getD j []), 12) := by
  obtain rfl | rfl | rfl | rfl | rfl : j = 0 ∨ j = 1 ∨ j = 2 ∨ j = 3 ∨ j = 4 := by omega
  all_goals kernel_rfl
theorem el_h2 (j : Nat) (hj : j < 5) : oneP (el4 (elTg.getD j [])) 2 elH2 = (el4 (elTg.getD j []), 9) := by
  obtain rfl | rfl | rfl | rfl | rfl : j = 0 ∨ j = 1 ∨ j = 2 ∨ j = 3 ∨ j = 4 := by omega
  all_goals kernel_rfl
theorem el_st (j : Nat) (hj : j < 5) : (statP (el4 (elTg.getD j [])) 4).2 = 0 := by
  obtain rfl | rfl | rfl | rfl | rfl : j = 0 ∨ j = 1 ∨ j = 2 ∨ j = 3 ∨ j = 4 := by omega
  all_goals kernel_rfl
theorem el_ln (j : Nat) (hj : j < 5) : (statP (el4 (elTg.getD j [])) 4).1.links = 1 := by
  obtain rfl | rfl | rfl | rfl | rfl : j = 0 ∨ j = 1 ∨ j = 2 ∨ j = 3 ∨ j = 4 := by omega
  all_goals kernel_rfl
theorem el_dn (j : Nat) (hj : j < 5) : downP (el4 (elTg.getD j [])) 2 [[104]] = (0, 10) := by
  obtain rfl | rfl | rfl | rfl | rfl : j = 0 ∨ j = 1 ∨ j = 2 ∨ j = 3 ∨ j = 4 := by omega
  all_goals kernel_rfl
theorem el_nm (j : Nat) (hj : j < 5) : namesP (el4 (elTg.getD j [])) 3 = [([120], 4)] := by
  obtain rfl | rfl | rfl | rfl | rfl : j = 0 ∨ j = 1 ∨ j = 2 ∨ j = 3 ∨ j = 4 := by omega
  all_goals kernel_rfl
theorem el_ck : el1.clock = 1 ∧ el2.clock = 2 ∧ el3.clock = 3 := ⟨by kernel_rfl, by kernel_rfl, by kernel_rfl⟩
theorem el_ck4 (tg : List UInt8) : Tame 1 el3 (el4 tg) := tame_make _ _ _ _
theorem el_q3 : el3.quota = 100 := by kernel_rfl

theorem i64_maskL (n : Int) (k : Nat) (hk : k ≤ 62) : bits .and .i64 n ((2 ^ k - 1 : Nat) : Int) = n % ((2 ^ k : Nat) : Int) := by
  have h1 : 1 ≤ 2 ^ k := Nat.one_le_two_pow
  have h2 : 2 ^ k ≤ 2 ^ 62 := pow_le_pow2 hk
  have ha : (BitVec.ofInt 64 ((2 ^ k - 1 : Nat) : Int)).toNat = 2 ^ k - 1 := by
    rw [BitVec.ofInt_natCast, BitVec.toNat_ofNat]; exact Nat.mod_eq_of_lt (by omega)
  show IntKind.i64.wrap ((BitVec.ofInt 64 n &&& BitVec.ofInt 64 ((2 ^ k - 1 : Nat) : Int)).toNat : Int) = _
  rw [BitVec.toNat_and, ha, Nat.and_two_pow_sub_one_eq_mod]
  have hm : (((BitVec.ofInt 64 n).toNat : Nat) : Int) = n % 18446744073709551616 := by
    rw [BitVec.toNat_ofInt]
    omega
  have hlt : (BitVec.ofInt 64 n).toNat % 2 ^ k < 2 ^ k := Nat.mod_lt _ (by omega)
  rw [IntWalk.i64_in _ (by omega), Int.natCast_emod, hm]
  exact Int.emod_emod_of_dvd n (Int.ofNat_dvd.2 (show 2 ^ k ∣ 2 ^ 64 from Nat.pow_dvd_pow 2 (by omega)))

theorem el_entI (i : Nat) (hi : i < 5) : EntI (elE (elK.getD i 0)) := by
  obtain rfl | rfl | rfl | rfl | rfl : i = 0 ∨ i = 1 ∨ i = 2 ∨ i = 3 ∨ i = 4 := by omega
  all_goals exact entI_small (by decide)
theorem el_call {S : Nat → Prop} {wA W V : World} {f : Nat} {T : FsP} (ht : Turn S wA W f T) (hlow : ∀ k, S k → k < wA.heap.size) (hk : Kept NoB W V) (dir : Int) (hdir : okI dir) (E : EntV) (hE : E.pcs = [] ∧ EntI E) (r : Int) (hr : oneP T dir E = (T, r)) (hclk : T.clock + 10000 ≤ 4611686018427387904) (hquo : T.quota ≤ 4611686018427387904) :
    Calls Tryz.prog 13 #[.pointer (some ⟨f, 0, none⟩), .int .i64 dir, .agg (entC E (.slice none 0 0) (.slice none 0 0)).toArray] V fun e w' => e = .returned (.int .i64 r) ∧ Turn S wA w' f T := by
  have h1 := hE.1
  have := one_any (ht.1.keptNo hk) (fun k e => by
    have q1 := hk.size
    have q2 := ht.2.size
    rcases e with e | e
    · have := hlow k e; omega
    · have := e.2; omega) dir hdir E hE.2 none 0 none 0 (by rw [h1]; intro i hi; exact absurd hi (by simp)) (by rw [h1]; intro q hq; cases hq) (by rw [h1]; exact Nat.le_refl _) (by unfold maxLen; omega) hclk hquo
  rw [h1, hr] at this
  refine this.mono ?_
  rintro e w' ⟨rfl, h2⟩
  exact ⟨rfl, ht.next hk h2⟩

set_option maxHeartbeats 8000000 in
theorem extractLinks_core (ao : Option Addr) (n cap : Nat) (kd : Int) (w : World) (hn : n ≤ maxLen) (hkd : okI kd) : Calls Tryz.prog 6 #[.slice ao n cap, .int .i64 kd] w fun e w' => e = .returned (.bool true) ∧ Kept NoB w w' := by
  have HNew := Lib.hid (new_any 100 w (by decide))
  have HAw := Lib.hid awake24_any
  go_enter Tryz.func6, Tryz.ntmps6
  go_wp2_with fail
  refine HNew.out.mono ?_
  rintro e w1 ⟨f, rfl, hf1, hk1⟩
  have F1 := Lib.hid (FsOwn.made hf1 hk1)
  clear hf1 hk1 HNew
  have HM1 : Hid (Calls Tryz.prog 10 #[.pointer (some ⟨f, 0, none⟩), .int .i64 1, .string { data := #[105, 110] }, .agg #[.int .i64 6, .int .i64 0, .int .i64 0, .int .i64 0, .int .i64 0, .string { data := #[] }, .int .i64 0, .int .i64 0, .int .i64 0, .int .i64 0, .int .i64 0]] w1 fun e w' => e = .returned (.tuple #[.int .i64 2, .int .i64 0]) ∧ Hid (FsOwn w w' f el1)) := Lib.hid (by
    have := make_any F1.out.st 1 (by decide) [105, 110] (by decide) dirV (by decide) (by decide)
    refine Calls.mono this ?_
    rintro e w' ⟨rfl, h1, h2⟩
    refine ⟨by rw [el_m1], Lib.hid (F1.out.step h1 h2)⟩)
  go_wp2_with fail
  refine HM1.out.mono ?_
  rintro e w2 ⟨rfl, F2⟩
  clear HM1 F1
  have HM2 : Hid (Calls Tryz.prog 10 #[.pointer (some ⟨f, 0, none⟩), .int .i64 1, .string { data := #[111, 117, 116] }, .agg #[.int .i64 6, .int .i64 0, .int .i64 0, .int .i64 0, .int .i64 0, .string { data := #[] }, .int .i64 0, .int .i64 0, .int .i64 0, .int .i64 0, .int .i64 0]] w2 fun e w' => e = .returned (.tuple #[.int .i64 3, .int .i64 0]) ∧ Hid (FsOwn w w' f el2)) := Lib.hid (by
    have := make_any F2.out.st 1 (by decide) [111, 117, 116] (by decide) dirV (by decide) (by rw [el_ck.1]; decide)
    refine Calls.mono this ?_
    rintro e w' ⟨rfl, h1, h2⟩
    refine ⟨by rw [el_m2], Lib.hid (F2.out.step h1 h2)⟩)
  go_wp2_with fail
  refine HM2.out.mono ?_
  rintro e w3 ⟨rfl, F3⟩
  clear HM2 F2
  have HM3 : Hid (Calls Tryz.prog 10 #[.pointer (some ⟨f, 0, none⟩), .int .i64 3, .string { data := #[120] }, .agg #[.int .i64 1, .int .i64 0, .int .i64 0, .int .i64 0, .int .i64 0, .string { data := #[] }, .int .i64 0, .int .i64 0, .int .i64 0, .int .i64 0, .int .i64 0]] w3 fun e w' => e = .returned (.tuple #[.int .i64 4, .int .i64 0]) ∧ Hid (FsOwn w w' f el3)) := Lib.hid (by
    have := make_any F3.out.st 3 (by decide) [120] (by decide) filV (by decide) (by rw [el_ck.2.1]; decide)
    refine Calls.mono this ?_
    rintro e w' ⟨rfl, h1, h2⟩
    refine ⟨by rw [el_m3], Lib.hid (F3.out.step h1 h2)⟩)
  go_wp2_with fail
  refine HM3.out.mono ?_
  rintro e w4 ⟨rfl, F4⟩
  clear HM3 F3
  go_upto_region 7 with fail
  obtain ⟨j, hj⟩ : ∃ j : Nat, (j : Int) = (n : Int) % 5 := ⟨((n : Int) % 5).toNat, by omega⟩
  have hj5 : j < 5 := by omega
  obtain ⟨tg, htg⟩ : ∃ tg, tg = elTg.getD j [] := ⟨_, rfl⟩
  obtain ⟨X, hX⟩ : ∃ X, X = strB tg := ⟨_, rfl⟩
  have hrem : (n : Int) % 5 = (j : Int) := hj.symm
  have hcj : (w4.alloc (.cells #[.string { data := #[46, 46, 47, 111, 117, 116] }, .string { data := #[47, 111, 117, 116] }, .string { data := #[46, 46] }, .string { data := #[46] }, .string { data := #[46, 46, 47, 111, 117, 116, 47, 120] }] 9)).cell? ⟨w4.heap.size, j, none⟩ = some (.string X) := by
    rw [cell_of_row _ _ _ _ _ (0, 0) (heap_alloc_new _ _), hX, htg]
    obtain rfl | rfl | rfl | rfl | rfl : j = 0 ∨ j = 1 ∨ j = 2 ∨ j = 3 ∨ j = 4 := by omega
    all_goals rfl
  have hnb : (n : Int) ≤ 9223372036854775807 := by unfold maxLen at hn; omega
  clear hj
  have HX := Lib.hid hX; have HTgj := Lib.hid htg; have HJ5 := Lib.hid hj5; have HKd := Lib.hid hkd
  have HM4 : Hid (∀ W, Kept NoB w4 W → Calls Tryz.prog 10 #[.pointer (some ⟨f, 0, none⟩), .int .i64 2, .string { data := #[108] }, .agg #[.int .i64 3, .int .i64 0, .int .i64 0, .int .i64 0, .int .i64 0, .string X, .int .i64 0, .int .i64 0, .int .i64 0, .int .i64 0, .int .i64 0]] W fun e w' => e = .returned (.tuple #[.int .i64 5, .int .i64 0]) ∧ Hid (FsOwn w w' f (el4 tg))) := Lib.hid (fun W hW => by
    have F := F4.out.kept hW
    have := make_any F.st 2 (by decide) [108] (by decide) (symT tg) ⟨show (-9223372036854775808 : Int) ≤ 0 by decide, show (0 : Int) ≤ 9223372036854775807 by decide⟩ (by rw [el_ck.2.2]; decide)
    have hm := el_m4 j HJ5.out
    rw [← HTgj.out] at hm
    rw [hm] at this
    rw [HX.out]
    refine Calls.mono this ?_
    rintro e w' ⟨rfl, h1, h2⟩
    exact ⟨rfl, Lib.hid (F.step h1 h2)⟩)
  obtain ⟨T, hT⟩ : ∃ T, T = el4 tg := ⟨_, rfl⟩
  rw [← hT] at HM4
  have HTg : Hid (T = el4 (elTg.getD j [])) := Lib.hid (by rw [hT, htg])
  have hck4 := el_ck4 tg
  rw [← hT] at hck4
  have HCk : Hid (T.clock + 10000 ≤ 4611686018427387904) := Lib.hid (by have := hck4.2.2; have := el_ck.2.2; omega)
  have HQu : Hid (T.quota ≤ 4611686018427387904) := Lib.hid (by have := hck4.1; have := el_q3; omega)
  have HCl : Hid (T.clock ≤ 1000000000) := Lib.hid (by have := hck4.2.2; have := el_ck.2.2; omega)
  have HNmT : Hid (namesP T 3 = [([120], 4)]) := Lib.hid (by rw [HTg.out]; exact el_nm j HJ5.out)
  clear hX htg hT hck4 hkd
  go_upto_region 8 with fail
  clear hcj hrem
  go_upto_region 9 with (go_at_call 10; refine (HM4.out _ ((Kept.refl _ _).alloc _)).mono ?_; rintro e w5 ⟨rfl, F5⟩)
  clear HM4 F4 hj5
  obtain ⟨S5, hS5⟩ : ∃ S5, S5 = NewB w w5 := ⟨_, rfl⟩
  have HF5 : Hid (FsSt S5 w5 f T) := Lib.hid (by rw [hS5]; exact F5.out.st)
  have HK5w := Lib.hid F5.out.keep
  have HL5 : Hid (∀ k, S5 k → w.heap.size ≤ k ∧ k < w5.heap.size) := Lib.hid (by rw [hS5]; exact fun k e => e)
  have HNx : Hid (T.next ≤ 4611686018427387904) := Lib.hid (by have := HF5.out.okT.next; have := HCl.out; omega)
  clear hS5 F5
  obtain ⟨ck, hck⟩ : ∃ c, c = T.clock := ⟨_, rfl⟩
  have HCkT : Hid (T.clock = ck) := Lib.hid hck.symm
  have HNm1 : Hid (Calls Tryz.prog 19 #[.pointer (some ⟨f, 0, none⟩), .int .i64 3] w5 fun e w' => ∃ bo bc, e = .returned (.slice bo 1 bc) ∧ Hid (NmsP w5 [([120], 4)] (.slice bo 1 bc) w')) := Lib.hid (by
    have := names_any HF5.out 3 (by decide) HCl.out
    rw [HNmT.out] at this
    exact this)
  have HCk1 : Hid (∀ W, Kept NoB w5 W → Calls Tryz.prog 22 #[.pointer (some ⟨f, 0, none⟩)] W fun e w' => e = .returned (.int .i64 ck) ∧ w' = W) := Lib.hid (fun W hW => by
    have := clock_any (HF5.out.keptNo hW)
    rw [HCkT.out] at this
    exact this)
  clear hck
  go_upto_region 12 with (first
    | (go_at_call 19; refine HNm1.out.mono ?_; rintro e wA ⟨ra, rc, rfl, hNA⟩)
    | (go_at_call 22; refine (HCk1.out _ hNA.out.2.2).mono ?_; rintro e wB ⟨rfl, hwB⟩))
  subst hwB
  have HRowA : Hid (wB.ownsRow 0 9 1 (.slice ra 1 rc) 1 ([[120]].map strV)) := Lib.hid hNA.out.1
  have HRowS : Hid (∀ k, (Value.slice ra 1 rc).ownBlock = some k → ¬ S5 k) := Lib.hid (fun k e e2 => by
    have q1 := hNA.out.2.1 k e
    have q2 := (HL5.out k e2).2
    omega)
  obtain ⟨wA, hwA⟩ : ∃ wA, wA = wB := ⟨_, rfl⟩
  subst hwA
  have HT0 : Hid (Turn S5 wA wA f T) := Lib.hid (Turn.nil (HF5.out.keptNo hNA.out.2.2))
  have HLow : Hid (∀ k, S5 k → k < wA.heap.size) := Lib.hid (fun k e => Nat.lt_of_lt_of_le (HL5.out k e).2 hNA.out.2.2.size)
  have HEnd : Hid (∀ W, Kept S5 wA W → Kept NoB w W) := Lib.hid (fun W hW => keep_onS (S := NoB) (HK5w.out.trans hNA.out.2.2) hW (fun k hk e => by have := (HL5.out k e).1; omega))
  clear HNm1 HCk1
  have m8 : bits .and .i64 kd 255 = kd % 256 := i64_maskL kd 8 (by decide)
  obtain ⟨i, hi⟩ : ∃ i : Nat, (i : Int) = kd % 256 % 5 := ⟨(kd % 256 % 5).toNat, by omega⟩
  have hi5 : i < 5 := by omega
  have hrem : kd % 256 % 5 = (i : Int) := hi.symm
  obtain ⟨kk, hki⟩ : ∃ kk, elK.getD i 0 = kk := ⟨_, rfl⟩
  have hci : (wA.alloc (.cells #[.int .i64 1, .int .i64 6, .int .i64 7, .int .i64 3, .int .i64 8] 3)).cell? ⟨wA.heap.size, i, none⟩ = some (.int .i64 kk) := by
    rw [cell_of_row _ _ _ _ _ (0, 0) (heap_alloc_new _ _), ← hki]
    obtain rfl | rfl | rfl | rfl | rfl : i = 0 ∨ i = 1 ∨ i = 2 ∨ i = 3 ∨ i = 4 := by omega
    all_goals rfl
  clear hi
  have HKi := Lib.hid hki
  clear hki
  go_upto_region 13 with fail
  clear hci hrem m8
  obtain ⟨wC, hwC⟩ : ∃ wC, wC = wA.alloc (.cells #[.int .i64 1, .int .i64 6, .int .i64 7, .int .i64 3, .int .i64 8] 3) := ⟨_, rfl⟩
  rw [← hwC]
  have hkC : Kept NoB wA wC := by rw [hwC]; exact (Kept.refl NoB wA).alloc _
  clear hwC
  go_upto_region 14 with fail
  obtain ⟨wD, hwD⟩ : ∃ wD, wD = wC.alloc (.cells #[.int .i64 kk, .string { data := #[108, 47, 120] }, .string { data := #[] }, .int .i64 0, .int .i64 0, .int .i64 0, .int .i64 0, .int .i64 0, .int .i64 0, .int .i64 0, .slice none 0 0, .slice none 0 0] 38) := ⟨_, rfl⟩
  rw [← hwD]
  have hkD : Kept NoB wA wD := by rw [hwD]; exact hkC.alloc _
  have hoD : wD.heap[wC.heap.size]? = some (.cells #[.int .i64 kk, .string { data := #[108, 47, 120] }, .string { data := #[] }, .int .i64 0, .int .i64 0, .int .i64 0, .int .i64 0, .int .i64 0, .int .i64 0, .int .i64 0, .slice none 0 0, .slice none 0 0] 38 (0, 0)) := by rw [hwD]; exact heap_alloc_new _ _
  obtain ⟨b, hb⟩ : ∃ b, b = wC.heap.size := ⟨_, rfl⟩
  rw [← hb] at hoD ⊢
  have hbA : wA.heap.size ≤ b := by rw [hb]; exact hkC.size
  clear hwD hkC hb
  by_cases h3 : kk = 3
  · have e3 : (kk == 3) = true := by simpa using h3
    have x2 : wD.cell? ⟨b, 2, none⟩ = some (.string ⟨#[]⟩) := by rw [obj_cell hoD]; rfl
    have g2 := obj_free hoD 2
    obtain ⟨wE, hwE⟩ : ∃ wE, wE = wD.setCell ⟨b, 2, none⟩ (.string { data := #[121] }) := ⟨_, rfl⟩
    have hkE2 : wE.heap[b]? = some (.cells (entC (elE kk) (.slice none 0 0) (.slice none 0 0)).toArray 38 (0, 0)) := by
      have h0 := obj_set hoD 2 (.string { data := #[121] })
      rw [hwE, h0]
      unfold elE
      rw [if_pos h3]
      rfl
    have HKE : Hid (Kept NoB wA wE) := Lib.hid (by rw [hwE]; exact hkD.setCell (.inr hbA) _)
    have HWE := Lib.hid hwE
    clear hwE hoD hkD hbA
    go_upto_region 16 with fail
    rw [← HWE.out]
    clear x2 g2 h3 e3
    have hki := HKi.out
    clear HKi
    have HS13 := Lib.hid (el_call HT0.out HLow.out HKE.out 2 ⟨by decide, by decide⟩ (elE (elK.getD i 0)) ⟨rfl, el_entI i hi5⟩ 12 (by rw [HTg.out]; exact el_one j HJ5.out i hi5) HCk.out HQu.out)
    rw [hki] at HS13
    have HKe := Lib.hid hkE2
    clear hkE2
    go_upto_region 17 with (first | (refine load_rowE (by rfl) (.tmp 18) rfl b rfl (elE kk) (.slice none 0 0) (.slice none 0 0) HKe.out ?_) | (go_at_call 13; refine HS13.out.mono ?_; rintro e v1 ⟨rfl, ht1⟩))
    have HT1 := Lib.hid ht1
    have HS2 := Lib.hid (el_call HT1.out HLow.out (Kept.refl _ _) 2 ⟨by decide, by decide⟩ elH1 ⟨rfl, entI_small (by decide)⟩ 12 (by rw [HTg.out]; exact el_h1 j HJ5.out) HCk.out HQu.out)
    have HS2 : Hid (Calls Tryz.prog 13 #[.pointer (some ⟨f, 0, none⟩), .int .i64 2, .agg #[.int .i64 2, .string { data := #[104] }, .string { data := #[108, 47, 120] }, .int .i64 0, .int .i64 0, .int .i64 0, .int .i64 0, .int .i64 0, .int .i64 0, .int .i64 0, .slice none 0 0, .slice none 0 0]] v1 fun e w' => e = .returned (.int .i64 12) ∧ Turn S5 wA w' f T) := Lib.hid HS2.out
    clear ht1 HS13 HT0
    go_upto_region 18 with (go_at_call 13; refine HS2.out.mono ?_; rintro e v2 ⟨rfl, ht2⟩)
    have HT2 := Lib.hid ht2
    have HS3 : Hid (Calls Tryz.prog 13 #[.pointer (some ⟨f, 0, none⟩), .int .i64 2, .agg #[.int .i64 2, .string { data := #[104] }, .string { data := #[46, 46, 47, 111, 117, 116, 47, 120] }, .int .i64 0, .int .i64 0, .int .i64 0, .int .i64 0, .int .i64 0, .int .i64 0, .int .i64 0, .slice none 0 0, .slice none 0 0]] v2 fun e w' => e = .returned (.int .i64 9) ∧ Turn S5 wA w' f T) := Lib.hid (el_call HT2.out HLow.out (Kept.refl _ _) 2 ⟨by decide, by decide⟩ elH2 ⟨rfl, entI_small (by decide)⟩ 9 (by rw [HTg.out]; exact el_h2 j HJ5.out) HCk.out HQu.out)
    clear ht2 HS2 HT1
    go_upto_region 19 with (go_at_call 13; refine HS3.out.mono ?_; rintro e v3 ⟨rfl, ht3⟩)
    have HT3 := Lib.hid ht3
    clear ht3 HS3 HT2
    have hst := el_st j HJ5.out
    have hln := el_ln j HJ5.out
    have hdn := el_dn j HJ5.out
    rw [← HTg.out] at hst hln hdn
    obtain ⟨v, hv⟩ : ∃ v, v = (statP T 4).1 := ⟨_, rfl⟩
    have HSt : Hid (Calls Tryz.prog 15 #[.pointer (some ⟨f, 0, none⟩), .int .i64 4] v3 fun e w' => e = .returned (.tuple #[.agg (nvC v).toArray, .int .i64 0]) ∧ Kept NoB v3 w') := Lib.hid (by
      have := stat_any HT3.out.1 4 (by decide)
      rw [hst, ← hv] at this
      exact this)
    have hvl : v.links = 1 := by rw [hv]; exact hln
    have HOne := Lib.hid (nv_one v)
    have HVl := Lib.hid hvl
    have HDn := Lib.hid hdn
    clear hv hvl hst hln hdn
    go_upto_region 20 with (first | (go_at_call 15; refine HSt.out.mono ?_; rintro e v4 ⟨rfl, hk4⟩) | (refine wpList_store_row rfl 27 (.tmp 22) (.tmp 108) rfl v4.heap.size (nvC v).toArray rfl rfl _ _ (heap_alloc_new _ _) infoNd rfl HOne.out ?_))
    obtain ⟨v5, hv5⟩ : ∃ v5, v5 = (v4.alloc (.cells #[.int .i64 0, .int .i64 0, .int .i64 0, .int .i64 0, .int .i64 0, .string { data := #[] }, .int .i64 0, .int .i64 0, .int .i64 0, .int .i64 0, .int .i64 0] 27)).setRow v4.heap.size (nvC v).toArray := ⟨_, rfl⟩
    rw [← hv5]
    have hk5 : Kept NoB v4 v5 := by rw [hv5]; exact ((Kept.refl NoB v4).alloc _).setRow (.inr (Nat.le_refl _)) _
    have d9 : v5.cell? ⟨v4.heap.size, 9, none⟩ = some (.int .i64 1) := by
      rw [hv5, cell_of_row _ _ _ _ _ (0, 0) (setRow_heap _ _ _ _ _ _ (heap_alloc_new _ _)), ← HVl.out]; rfl
    have HK5 := Lib.hid (hk4.trans hk5)
    obtain ⟨g9, hg9⟩ : ∃ g, g = v4.heap.size := ⟨_, rfl⟩
    rw [← hg9] at d9 ⊢
    clear hv5 hk5 hk4 hg9 HSt HVl
    have HDw : Hid (∀ W, W = v5.alloc (.cells #[.string { data := #[104] }] 9) → Calls Tryz.prog 23 #[.pointer (some ⟨f, 0, none⟩), .int .i64 2, .slice (some ⟨v5.heap.size, 0, none⟩) 1 1] W fun e w' => e = .returned (.tuple #[.int .i64 0, .int .i64 10]) ∧ Kept NoB v5 w') := Lib.hid (fun W hW => by
      have hkW : Kept NoB v5 W := by rw [hW]; exact (Kept.refl NoB v5).alloc _
      have := down_any (HT3.out.1.keptNo (HK5.out.trans hkW)) HNx.out 2 ⟨by decide, by decide⟩ (some ⟨v5.heap.size, 0, none⟩) 1 (v5.heap.size + 1) [[104]] (by
        intro x hx
        have hx0 : x = 0 := by simp at hx; omega
        subst hx0
        refine ⟨v5.heap.size, 0, rfl, by omega, ?_⟩
        rw [hW, cell_of_row _ _ _ _ _ (0, 0) (heap_alloc_new _ _)]; rfl) (by decide) (by decide)
      rw [HDn.out] at this
      exact this.mono fun e w' ⟨q1, q2⟩ => ⟨q1, hkW.trans q2⟩)
    go_upto_region 21 with (go_at_call 23; refine (HDw.out _ rfl).mono ?_; rintro e v6 ⟨rfl, hk6⟩)
    have d96 := hk6.cell d9
    have HT6 := Lib.hid (HT3.out.kept (HK5.out.trans hk6))
    clear hk6 HDw d9
    have HNm2 : Hid (Calls Tryz.prog 19 #[.pointer (some ⟨f, 0, none⟩), .int .i64 3] v6 fun e w' => ∃ bo bc, e = .returned (.slice bo 1 bc) ∧ Hid (NmsP v6 [([120], 4)] (.slice bo 1 bc) w')) := Lib.hid (by
      have := names_any HT6.out.1 3 (by decide) HCl.out
      rw [HNmT.out] at this
      exact this)
    have HCk2 : Hid (∀ W, Kept NoB v6 W → Calls Tryz.prog 22 #[.pointer (some ⟨f, 0, none⟩)] W fun e w' => e = .returned (.int .i64 ck) ∧ w' = W) := Lib.hid (fun W hW => by
      have := clock_any (HT6.out.1.keptNo hW)
      rw [HCkT.out] at this
      exact this)
    have HRow6 : Hid (RdS v6 v6.heap.size ra [[120]]) := Lib.hid (by
      have h1 := HT6.out.2.row HRowA.out (fun k e => HRowS.out k e)
      exact own_readsS h1 rfl)
    have HSm : Hid (∀ bo bc W, NmsP v6 [([120], 4)] (.slice bo 1 bc) W → Calls Tryz.prog 24 #[.slice bo 1 bc, .slice ra 1 rc] W fun e w' => e = .returned (.bool true) ∧ Kept NoB W w') := Lib.hid (fun bo bc W hN => by
      have := sameT_any bo bc [[120]] ra rc [[120]] W.heap.size W.heap.size W (own_readsS hN.1 rfl) ((HRow6.out.keptNo hN.2.2).room) (by decide)
      rw [decide_eq_true rfl] at this
      exact this)
    go_wp2_with (first
      | (go_at_call 19; refine HNm2.out.mono ?_; rintro e v7 ⟨bo, bc, rfl, hN7⟩)
      | (go_at_call 24; refine (HSm.out bo bc v7 hN7.out).mono ?_; rintro e v8 ⟨rfl, hk8⟩)
      | (go_at_call 22; refine (HCk2.out _ (hN7.out.2.2.trans hk8)).mono ?_; rintro e v9 ⟨rfl, hv9⟩)
      | (go_at_call 8; refine (HAw.out _).mono ?_; rintro e v10 ⟨rfl, hk10⟩))
    go_ret
    subst hv9
    exact ⟨rfl, HEnd.out _ (((HT6.out.kept hN7.out.2.2).kept hk8).kept hk10).2⟩
  · have e3 : (kk == 3) = false := by simpa using h3
    have hkE2 : wD.heap[b]? = some (.cells (entC (elE kk) (.slice none 0 0) (.slice none 0 0)).toArray 38 (0, 0)) := by
      rw [hoD]
      unfold elE
      rw [if_neg h3]
      rfl
    have HKE : Hid (Kept NoB wA wD) := Lib.hid hkD
    clear hoD hkD hbA
    go_upto_region 16 with fail
    clear h3 e3
    have hki := HKi.out
    clear HKi
    have HS13 := Lib.hid (el_call HT0.out HLow.out HKE.out 2 ⟨by decide, by decide⟩ (elE (elK.getD i 0)) ⟨rfl, el_entI i hi5⟩ 12 (by rw [HTg.out]; exact el_one j HJ5.out i hi5) HCk.out HQu.out)
    rw [hki] at HS13
    have HKe := Lib.hid hkE2
    clear hkE2
    go_upto_region 17 with (first | (refine load_rowE (by rfl) (.tmp 18) rfl b rfl (elE kk) (.slice none 0 0) (.slice none 0 0) HKe.out ?_) | (go_at_call 13; refine HS13.out.mono ?_; rintro e v1 ⟨rfl, ht1⟩))
    have HT1 := Lib.hid ht1
    have HS2 := Lib.hid (el_call HT1.out HLow.out (Kept.refl _ _) 2 ⟨by decide, by decide⟩ elH1 ⟨rfl, entI_small (by decide)⟩ 12 (by rw [HTg.out]; exact el_h1 j HJ5.out) HCk.out HQu.out)
    have HS2 : Hid (Calls Tryz.prog 13 #[.pointer (some ⟨f, 0, none⟩), .int .i64 2, .agg #[.int .i64 2, .string { data := #[104] }, .string { data := #[108, 47, 120] }, .int .i64 0, .int .i64 0, .int .i64 0, .int .i64 0, .int .i64 0, .int .i64 0, .int .i64 0, .slice none 0 0, .slice none 0 0]] v1 fun e w' => e = .returned (.int .i64 12) ∧ Turn S5 wA w' f T) := Lib.hid HS2.out
    clear ht1 HS13 HT0
    go_upto_region 18 with (go_at_call 13; refine HS2.out.mono ?_; rintro e v2 ⟨rfl, ht2⟩)
    have HT2 := Lib.hid ht2
    have HS3 : Hid (Calls Tryz.prog 13 #[.pointer (some ⟨f, 0, none⟩), .int .i64 2, .agg #[.int .i64 2, .string { data := #[104] }, .string { data := #[46, 46, 47, 111, 117, 116, 47, 120] }, .int .i64 0, .int .i64 0, .int .i64 0, .int .i64 0, .int .i64 0, .int .i64 0, .int .i64 0, .slice none 0 0, .slice none 0 0]] v2 fun e w' => e = .returned (.int .i64 9) ∧ Turn S5 wA w' f T) := Lib.hid (el_call HT2.out HLow.out (Kept.refl _ _) 2 ⟨by decide, by decide⟩ elH2 ⟨rfl, entI_small (by decide)⟩ 9 (by rw [HTg.out]; exact el_h2 j HJ5.out) HCk.out HQu.out)
    clear ht2 HS2 HT1
    go_upto_region 19 with (go_at_call 13; refine HS3.out.mono ?_; rintro e v3 ⟨rfl, ht3⟩)
    have HT3 := Lib.hid ht3
    clear ht3 HS3 HT2
    have hst := el_st j HJ5.out
    have hln := el_ln j HJ5.out
    have hdn := el_dn j HJ5.out
    rw [← HTg.out] at hst hln hdn
    obtain ⟨v, hv⟩ : ∃ v, v = (statP T 4).1 := ⟨_, rfl⟩
    have HSt : Hid (Calls Tryz.prog 15 #[.pointer (some ⟨f, 0, none⟩), .int .i64 4] v3 fun e w' => e = .returned (.tuple #[.agg (nvC v).toArray, .int .i64 0]) ∧ Kept NoB v3 w') := Lib.hid (by
      have := stat_any HT3.out.1 4 (by decide)
      rw [hst, ← hv] at this
      exact this)
    have hvl : v.links = 1 := by rw [hv]; exact hln
    have HOne := Lib.hid (nv_one v)
    have HVl := Lib.hid hvl
    have HDn := Lib.hid hdn
    clear hv hvl hst hln hdn
    go_upto_region 20 with (first | (go_at_call 15; refine HSt.out.mono ?_; rintro e v4 ⟨rfl, hk4⟩) | (refine wpList_store_row rfl 27 (.tmp 22) (.tmp 108) rfl v4.heap.size (nvC v).toArray rfl rfl _ _ (heap_alloc_new _ _) infoNd rfl HOne.out ?_))
    obtain ⟨v5, hv5⟩ : ∃ v5, v5 = (v4.alloc (.cells #[.int .i64 0, .int .i64 0, .int .i64 0, .int .i64 0, .int .i64 0, .string { data := #[] }, .int .i64 0, .int .i64 0, .int .i64 0, .int .i64 0, .int .i64 0] 27)).setRow v4.heap.size (nvC v).toArray := ⟨_, rfl⟩
    rw [← hv5]
    have hk5 : Kept NoB v4 v5 := by rw [hv5]; exact ((Kept.refl NoB v4).alloc _).setRow (.inr (Nat.le_refl _)) _
    have d9 : v5.cell? ⟨v4.heap.size, 9, none⟩ = some (.int .i64 1) := by
      rw [hv5, cell_of_row _ _ _ _ _ (0, 0) (setRow_heap _ _ _ _ _ _ (heap_alloc_new _ _)), ← HVl.out]; rfl
    have HK5 := Lib.hid (hk4.trans hk5)
    obtain ⟨g9, hg9⟩ : ∃ g, g = v4.heap.size := ⟨_, rfl⟩
    rw [← hg9] at d9 ⊢
    clear hv5 hk5 hk4 hg9 HSt HVl
    have HDw : Hid (∀ W, W = v5.alloc (.cells #[.string { data := #[104] }] 9) → Calls Tryz.prog 23 #[.pointer (some ⟨f, 0, none⟩), .int .i64 2, .slice (some ⟨v5.heap.size, 0, none⟩) 1 1] W fun e w' => e = .returned (.tuple #[.int .i64 0, .int .i64 10]) ∧ Kept NoB v5 w') := Lib.hid (fun W hW => by
      have hkW : Kept NoB v5 W := by rw [hW]; exact (Kept.refl NoB v5).alloc _
      have := down_any (HT3.out.1.keptNo (HK5.out.trans hkW)) HNx.out 2 ⟨by decide, by decide⟩ (some ⟨v5.heap.size, 0, none⟩) 1 (v5.heap.size + 1) [[104]] (by
        intro x hx
        have hx0 : x = 0 := by simp at hx; omega
        subst hx0
        refine ⟨v5.heap.size, 0, rfl, by omega, ?_⟩
        rw [hW, cell_of_row _ _ _ _ _ (0, 0) (heap_alloc_new _ _)]; rfl) (by decide) (by decide)
      rw [HDn.out] at this
      exact this.mono fun e w' ⟨q1, q2⟩ => ⟨q1, hkW.trans q2⟩)
    go_upto_region 21 with (go_at_call 23; refine (HDw.out _ rfl).mono ?_; rintro e v6 ⟨rfl, hk6⟩)
    have d96 := hk6.cell d9
    have HT6 := Lib.hid (HT3.out.kept (HK5.out.trans hk6))
    clear hk6 HDw d9
    have HNm2 : Hid (Calls Tryz.prog 19 #[.pointer (some ⟨f, 0, none⟩), .int .i64 3] v6 fun e w' => ∃ bo bc, e = .returned (.slice bo 1 bc) ∧ Hid (NmsP v6 [([120], 4)] (.slice bo 1 bc) w')) := Lib.hid (by
      have := names_any HT6.out.1 3 (by decide) HCl.out
      rw [HNmT.out] at this
      exact this)
    have HCk2 : Hid (∀ W, Kept NoB v6 W → Calls Tryz.prog 22 #[.pointer (some ⟨f, 0, none⟩)] W fun e w' => e = .returned (.int .i64 ck) ∧ w' = W) := Lib.hid (fun W hW => by
      have := clock_any (HT6.out.1.keptNo hW)
      rw [HCkT.out] at this
      exact this)
    have HRow6 : Hid (RdS v6 v6.heap.size ra [[120]]) := Lib.hid (by
      have h1 := HT6.out.2.row HRowA.out (fun k e => HRowS.out k e)
      exact own_readsS h1 rfl)
    have HSm : Hid (∀ bo bc W, NmsP v6 [([120], 4)] (.slice bo 1 bc) W → Calls Tryz.prog 24 #[.slice bo 1 bc, .slice ra 1 rc] W fun e w' => e = .returned (.bool true) ∧ Kept NoB W w') := Lib.hid (fun bo bc W hN => by
      have := sameT_any bo bc [[120]] ra rc [[120]] W.heap.size W.heap.size W (own_readsS hN.1 rfl) ((HRow6.out.keptNo hN.2.2).room) (by decide)
      rw [decide_eq_true rfl] at this
      exact this)
    go_wp2_with (first
      | (go_at_call 19; refine HNm2.out.mono ?_; rintro e v7 ⟨bo, bc, rfl, hN7⟩)
      | (go_at_call 24; refine (HSm.out bo bc v7 hN7.out).mono ?_; rintro e v8 ⟨rfl, hk8⟩)
      | (go_at_call 22; refine (HCk2.out _ (hN7.out.2.2.trans hk8)).mono ?_; rintro e v9 ⟨rfl, hv9⟩)
      | (go_at_call 8; refine (HAw.out _).mono ?_; rintro e v10 ⟨rfl, hk10⟩))
    go_ret
    subst hv9
    exact ⟨rfl, HEnd.out _ (((HT6.out.kept hN7.out.2.2).kept hk8).kept hk10).2⟩

theorem extractLinks_law (v0 v1 : Value) (w : World) (r0 : Arg w 34 v0) (r1 : Arg w 3 v1) : Calls Tryz.prog 6 #[v0, v1] w fun e w' => e = .returned (.bool true) ∧ Below w.heap.size w w' := by
  obtain ⟨ao, len, cap, rfl, hl, hm, hn, hc⟩ := r0.slice Tryz.underlying34
  obtain ⟨y, rfl, hy⟩ := r1.int rfl
  refine (extractLinks_core ao len cap y w (Nat.le_trans hl hm) (i64_bd hy)).mono ?_
  rintro e w' ⟨rfl, hk⟩
  exact ⟨rfl, hk.belowNo (Below.refl _ _)⟩
end Go.Proofs.YtgbakogihkdddaaGreatDoor
