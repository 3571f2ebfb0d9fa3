/-
  The law SameTurns.
-/
import Derived.Test.YtjjgadanobeamaaGreatDoorMt27
namespace Go.Proofs.YtjjgadanobeamaaGreatDoor
open Go.RowKit Go.Shelf
set_option linter.unusedVariables false
set_option linter.unusedSimpArgs false
set_option maxRecDepth 20000

theorem mask15t (n : Int) : bits .and .i64 n 15 = n % 16 := i64_mask n 4 (by decide)
theorem mask14t (n : Int) : bits .and .i64 n 14 = (((n % 16).toNat &&& 14 : Nat) : Int) := by
  have ha : (BitVec.ofInt 64 (14 : Int)).toNat = 14 := by decide
  show IntKind.i64.wrap ((BitVec.ofInt 64 n &&& BitVec.ofInt 64 (14 : Int)).toNat : Int) = _
  rw [BitVec.toNat_and, ha]
  obtain ⟨m, hm⟩ : ∃ m, m = (BitVec.ofInt 64 n).toNat := ⟨_, rfl⟩
  have hm2 : (m : Int) = n % 18446744073709551616 := by rw [hm, BitVec.toNat_ofInt]; omega
  rw [← hm]
  have e : m &&& 14 = (m % 16) &&& 14 := by
    have : m % 16 = m &&& 15 := (Nat.and_two_pow_sub_one_eq_mod m 4).symm
    rw [this, Nat.and_assoc]; rfl
  have e2 : (n % 16).toNat = m % 16 := by omega
  have hle : m &&& 14 ≤ 14 := Nat.and_le_right
  rw [IntWalk.i64_in _ (by omega), e2, e]
def tuA (K : Int) : NodeV := if K = 7 then tuS 116 else if K = 8 ∨ K = 9 then tuC 3 4 else tuF 5 6 7 8
theorem nv_size (v : NodeV) : (nvC v).toArray.size = 11 := rfl
theorem k14_eq (K : Int) (hK : 0 ≤ K ∧ K ≤ 15) : (((K.toNat &&& 14 : Nat) : Int) = 8) ↔ (K = 8 ∨ K = 9) := by
  rcases (show K = 0 ∨ K = 1 ∨ K = 2 ∨ K = 3 ∨ K = 4 ∨ K = 5 ∨ K = 6 ∨ K = 7 ∨ K = 8 ∨ K = 9 ∨ K = 10 ∨ K = 11 ∨ K = 12 ∨ K = 13 ∨ K = 14 ∨ K = 15 by omega) with rfl | rfl | rfl | rfl | rfl | rfl | rfl | rfl | rfl | rfl | rfl | rfl | rfl | rfl | rfl | rfl <;> decide
structure OneX (A : Nat) (w W : World) (f g : Nat) (a : NodeV) : Prop where
  two : TwX (fun k => k = A) w W f g (newT 100) (newT 100)
  low : w.heap.size ≤ A
  obj : W.heap[A]? = some (.cells (nvC a).toArray 25 (0, 0))
theorem OneX.row {A : Nat} {w W : World} {f g : Nat} {a : NodeV} (h : OneX A w W f g a) (b : NodeV) : OneX A w (W.setRow A (nvC b).toArray) f g b := by
  refine ⟨(h.two.kept (X := fun k => k = A) ((Kept.refl (fun k => k = A) W).setRow (.inl rfl) _) (fun k e => by rw [e]; exact h.low)).less (fun k e => .inl e), h.low, setRow_heap _ _ _ _ _ _ h.obj⟩
theorem alloc2_new (W : World) (o p : Obj) : ((W.alloc o).alloc p).heap[W.heap.size + 1]? = some p := by
  have : (W.alloc o).heap.size = W.heap.size + 1 := by simp
  rw [← this]; exact heap_alloc_new _ _
theorem ThrX.start {A : Nat} {w W : World} {f g : Nat} {a : NodeV} (h : OneX A w W f g a) (z : Array Value) :
    ThrX A (W.heap.size + 1) W.heap.size w (((W.alloc (.cells #[.int .u8 1] 5 (0, 0))).alloc (.cells z 25 (0, 0))).setRow (W.heap.size + 1) (nvC a).toArray) f g (newT 100) (newT 100) a a 1 := by
  obtain ⟨W1, hW1⟩ : ∃ W1, W1 = (W.alloc (.cells #[.int .u8 1] 5 (0, 0))).alloc (.cells z 25 (0, 0)) := ⟨_, rfl⟩
  have hk1 : Kept NoB W W1 := by rw [hW1]; exact ((Kept.refl NoB W).alloc _).alloc _
  have hk2 : Kept NoB W (W1.setRow (W.heap.size + 1) (nvC a).toArray) := hk1.setRow (.inr (by omega)) _
  have hs : W1.heap.size = W.heap.size + 2 := by rw [hW1]; simp
  have hs2 : (W1.setRow (W.heap.size + 1) (nvC a).toArray).heap.size = W.heap.size + 2 := by rw [← hs]; simp [World.setRow]
  have hB : W1.heap[W.heap.size + 1]? = some (.cells z 25 (0, 0)) := by rw [hW1]; exact alloc2_new _ _ _
  have hD : W1.heap[W.heap.size]? = some (.cells #[.int .u8 1] 5 (0, 0)) := by
    rw [hW1, Below.heap_alloc _ _ _ (by simp)]; exact heap_alloc_new _ _
  have hA := obj_lt h.obj
  have hw := h.two.keep.size
  have hl := h.low
  rw [← hW1]
  refine ⟨(h.two.kept (hk2.mono (fun k _ e => e.elim)) (fun k e => by rw [e]; exact h.low)).less (fun k e => ?_), (hk2.block A hA (fun e => e)).trans h.obj, setRow_heap _ _ _ _ _ _ hB, (setRow_other _ _ _ _ (by omega)).trans hD, by omega, by omega, by omega, by omega⟩
  rw [hs2]
  rcases e with e | e | e
  · exact .inl e
  · exact .inr (by omega)
  · exact .inr (by omega)
def EndX (w W : World) (f g : Nat) (a b : NodeV) (s : List UInt8) (size : Int) (c : UInt8) (link : Bool) : Prop :=
  ∃ TF TG AF AG, TwT w W f g TF TG ∧ TxOk TF AF 1 ∧ TxOk TG AG 1 ∧ textP TF id AF = rowF a link ∧ textP TG id AG = rowG a b s size c link
set_option maxHeartbeats 4000000 in
theorem sameTurns_core (n y : Int) (w : World) (htab : Pow10 w) : Calls Tryz.prog 3 #[.int .i64 n, .int .i64 y] w fun e w' => e = .returned (.bool true) ∧ Kept NoB w w' := by
  have HAw := Lib.hid (fun (W : World) (hk : Kept NoB w W) => awake15_any W (htab.keptNo hk))
  have HTab := Lib.hid htab
  have k1 := mask255 y
  have k2 := mask15t n
  have k3 := mask14t n
  obtain ⟨q, hq⟩ : ∃ q, q = y % 256 := ⟨_, rfl⟩
  obtain ⟨K, hK⟩ : ∃ K, K = n % 16 := ⟨_, rfl⟩
  have hqb : 0 ≤ q ∧ q ≤ 255 := by omega
  have hKb : 0 ≤ K ∧ K ≤ 15 := by omega
  rw [← hq] at k1
  rw [← hK] at k2 k3
  obtain ⟨K14, hK14⟩ : ∃ K14 : Int, K14 = ((K.toNat &&& 14 : Nat) : Int) := ⟨_, rfl⟩
  rw [← hK14] at k3
  have HK14 := Lib.hid hK14
  have HNew := Lib.hid (fun W => new_any 100 W (by decide))
  clear htab hq hK hK14
  go_enter Tryz.func3, Tryz.ntmps3
  go_wp2_with fail
  refine (HNew.out w).mono ?_
  rintro e w1 ⟨f, rfl, hf1, hk1⟩
  have F1 := Lib.hid (FsOwn.made hf1 hk1)
  clear hf1 hk1
  go_wp2_with fail
  refine (HNew.out w1).mono ?_
  rintro e w2 ⟨g, rfl, hg1, hk2⟩
  have HT2 := Lib.hid (TwX.ofTwo (TwT.start F1.out hg1 hk2))
  clear F1 hg1 hk2 HNew
  have HOne := Lib.hid (fun v => nv_one v)
  go_upto_region 6 with (refine wpList_store_row rfl 25 (.tmp 7) (.tmp 31) rfl w2.heap.size (nvC (tuF 5 6 7 8)).toArray rfl rfl _ _ (heap_alloc_new _ _) infoNd rfl (HOne.out _) ?_)
  obtain ⟨A, hA⟩ : ∃ A, A = w2.heap.size := ⟨_, rfl⟩
  obtain ⟨w3, hw3⟩ : ∃ w3, w3 = (w2.alloc (.cells #[.int .i64 0, .int .i64 0, .int .i64 0, .int .i64 0, .int .i64 0, .string { data := #[] }, .int .i64 0, .int .i64 0, .int .i64 0, .int .i64 0, .int .i64 0] 25)).setRow w2.heap.size (nvC (tuF 5 6 7 8)).toArray := ⟨_, rfl⟩
  have hA0 : w.heap.size ≤ A := by rw [hA]; exact HT2.out.keep.size
  have H3 : Hid (OneX A w w3 f g (tuF 5 6 7 8)) := Lib.hid (by
    refine ⟨?_, hA0, ?_⟩
    · refine (HT2.out.kept (W' := w3) (by rw [hw3]; exact ((Kept.refl _ w2).alloc _).setRow (.inr (Nat.le_refl _)) _) (fun _ e => e.elim)).less (fun k e => .inr ?_)
      rw [e, hA, hw3]
      exact ⟨Nat.le_refl _, by simp [World.setRow]⟩
    · rw [hw3, hA]; exact setRow_heap _ _ _ _ _ _ (heap_alloc_new _ _))
  rw [← hw3, ← hA]
  clear hw3 hA HT2
  have e14 := k14_eq K hKb
  rw [← HK14.out] at e14
  clear HK14
  go_upto_if 34 with fail
  go_cut [] from 32 to 35 (fun wx => Hid (OneX A w wx f g (if K = 7 then tuS 116 else tuF 5 6 7 8)))
  case first =>
    by_cases hK : K = 7
    · subst hK
      go_wp2_with (refine wpList_store_row rfl 25 (.tmp 7) (.tmp 35) rfl A (nvC (tuS 116)).toArray rfl rfl _ _ H3.out.obj infoNd rfl (HOne.out _) ?_)
      go_meet
      exact Lib.hid (by rw [if_pos trivial]; exact H3.out.row _)
    · have HKn := Lib.hid hK
      have g7 : (K == 7) = false := by simpa using hK
      clear hK
      go_wp2_with fail
      go_meet
      rw [if_neg HKn.out]
      exact H3
  case rest =>
  clear H3
  obtain ⟨w4, hw4⟩ : ∃ w4, w4 = wc := ⟨_, rfl⟩
  subst hw4
  have H4 := hcut
  clear hcut
  go_upto_if 38 with fail
  go_cut [] from 36 to 39 (fun wx => Hid (OneX A w wx f g (tuA K)))
  case first =>
    by_cases hK : K = 8 ∨ K = 9
    · obtain rfl : K14 = 8 := e14.2 hK
      have HKn := Lib.hid hK
      clear hK e14
      go_wp2_with (refine wpList_store_row rfl 25 (.tmp 7) (.tmp 39) rfl A (nvC (tuC 3 4)).toArray rfl rfl _ _ H4.out.obj infoNd rfl (HOne.out _) ?_)
      go_meet
      exact Lib.hid (by unfold tuA; rw [if_neg (by have := HKn.out; omega), if_pos HKn.out]; exact H4.out.row _)
    · have HKn := Lib.hid hK
      have g7 : ¬ K14 = 8 := fun e => hK (e14.1 e)
      clear hK e14
      go_wp2_with fail
      go_meet
      exact Lib.hid (by unfold tuA; have := H4.out; by_cases h7 : K = 7; rw [if_pos h7] at this ⊢; exact this; rw [if_neg h7] at this ⊢; rw [if_neg HKn.out]; exact this)
  case rest =>
  obtain ⟨w5, hw5⟩ : ∃ w5, w5 = wc := ⟨_, rfl⟩
  subst hw5
  have H5 := hcut
  clear hcut H4 e14
  obtain ⟨a, ha⟩ : ∃ a, a = tuA K := ⟨_, rfl⟩
  have HAk := Lib.hid ha
  rw [← ha] at H5
  clear ha
  go_upto_region 11 with (first | (refine wpList_load_row rfl 25 (.tmp 7) rfl A rfl 25 (nvC a).toArray (0, 0) _ H5.out.obj Tryz.underlying25 rfl infoNd ?_) | (refine wpList_store_row rfl 25 (.tmp 8) (.tmp 40) rfl (w5.heap.size + 1) (nvC a).toArray rfl rfl _ _ (alloc2_new _ _ _) infoNd rfl (HOne.out _) ?_))
  have H6 := Lib.hid (ThrX.start H5.out #[.int .i64 0, .int .i64 0, .int .i64 0, .int .i64 0, .int .i64 0, .string { data := #[] }, .int .i64 0, .int .i64 0, .int .i64 0, .int .i64 0, .int .i64 0])
  obtain ⟨D, hD⟩ : ∃ D, D = w5.heap.size := ⟨_, rfl⟩
  obtain ⟨B, hB⟩ : ∃ B, B = w5.heap.size + 1 := ⟨_, rfl⟩
  obtain ⟨w6, hw6⟩ : ∃ w6, w6 = ((w5.alloc (.cells #[.int .u8 1] 5 (0, 0))).alloc (.cells #[.int .i64 0, .int .i64 0, .int .i64 0, .int .i64 0, .int .i64 0, .string { data := #[] }, .int .i64 0, .int .i64 0, .int .i64 0, .int .i64 0, .int .i64 0] 25 (0, 0))).setRow (w5.heap.size + 1) (nvC a).toArray := ⟨_, rfl⟩
  rw [← hw6, ← hB, ← hD] at H6
  rw [← hw6, ← hB, ← hD]
  clear hD hB hw6 H5
  go_upto_block 0 with fail
  go_cut [9, 10, 11, 12] from 44 to 111 (fun v9 v10 v11 v12 wx => ∃ (b : NodeV) (s : List UInt8) (size : Int) (c : UInt8) (link : Bool) (D' : Nat), v9 = .string (strB s) ∧ v10 = .int .i64 size ∧ v11 = .slice (some ⟨D', 0, none⟩) 1 1 ∧ v12 = .bool link ∧ Hid (Plan a b s size c link (decide (11 < K))) ∧ Hid (ThrX A B D' w wx f g (newT 100) (newT 100) a b c))
  case first =>
    -- <<S
    rcases (show K = 0 ∨ K = 1 ∨ K = 2 ∨ K = 3 ∨ K = 4 ∨ K = 5 ∨ K = 6 ∨ K = 7 ∨ K = 8 ∨ K = 9 ∨ K = 10 ∨ K = 11 ∨ K = 12 ∨ K = 13 ∨ K = 14 ∨ K = 15 by omega) with rfl | rfl | rfl | rfl | rfl | rfl | rfl | rfl | rfl | rfl | rfl | rfl | rfl | rfl | rfl | rfl
    · obtain rfl : a = tuF 5 6 7 8 := HAk.out
      have c1 : w6.cell? ⟨B, 0, none⟩ = some (.int .i64 1) := (obj_cell H6.out.objB 0).trans rfl
      have f1 := obj_free H6.out.objB 0
      clear HAk
      go_wp2_with fail
      go_meet
      exact ⟨tuP, [110], 10, 1, false, D, rfl, rfl, rfl, rfl, Lib.hid (plan0), Lib.hid (H6.out.setB 0 _ _ rfl)⟩
    · obtain rfl : a = tuF 5 6 7 8 := HAk.out
      have c1 : w6.cell? ⟨B, 1, none⟩ = some (.int .i64 5) := (obj_cell H6.out.objB 1).trans rfl
      have f1 := obj_free H6.out.objB 1
      clear HAk
      go_wp2_with fail
      go_meet
      exact ⟨tuF (5 + (q + 1)) 6 7 8, [110], 10, 1, false, D, rfl, rfl, rfl, rfl, Lib.hid (plan1 (q + 1) (by omega)), Lib.hid (H6.out.setB 1 _ _ rfl)⟩
    · obtain rfl : a = tuF 5 6 7 8 := HAk.out
      have c1 : w6.cell? ⟨B, 2, none⟩ = some (.int .i64 6) := (obj_cell H6.out.objB 2).trans rfl
      have f1 := obj_free H6.out.objB 2
      clear HAk
      go_wp2_with fail
      go_meet
      exact ⟨tuF 5 (6 + (q + 1)) 7 8, [110], 10, 1, false, D, rfl, rfl, rfl, rfl, Lib.hid (plan2 (q + 1) (by omega)), Lib.hid (H6.out.setB 2 _ _ rfl)⟩
    · obtain rfl : a = tuF 5 6 7 8 := HAk.out
      have c1 : w6.cell? ⟨B, 3, none⟩ = some (.int .i64 7) := (obj_cell H6.out.objB 3).trans rfl
      have f1 := obj_free H6.out.objB 3
      clear HAk
      go_wp2_with fail
      go_meet
      exact ⟨tuF 5 6 (7 + (q + 1)) 8, [110], 10, 1, false, D, rfl, rfl, rfl, rfl, Lib.hid (plan3 (q + 1) (by omega)), Lib.hid (H6.out.setB 3 _ _ rfl)⟩
    · obtain rfl : a = tuF 5 6 7 8 := HAk.out
      have c1 : w6.cell? ⟨B, 4, none⟩ = some (.int .i64 8) := (obj_cell H6.out.objB 4).trans rfl
      have f1 := obj_free H6.out.objB 4
      clear HAk
      go_wp2_with fail
      go_meet
      exact ⟨tuF 5 6 7 (8 - (q + 1)), [110], 10, 1, false, D, rfl, rfl, rfl, rfl, Lib.hid (plan4 (q + 1) (by omega)), Lib.hid (H6.out.setB 4 _ _ rfl)⟩
    · obtain rfl : a = tuF 5 6 7 8 := HAk.out
      clear HAk
      go_wp2_with fail
      go_meet
      exact ⟨tuF 5 6 7 8, [110], 10 + (q + 1), 1, false, D, rfl, rfl, rfl, rfl, Lib.hid (plan5 (q + 1) (by omega)), H6⟩
    · -- <<T
      obtain rfl : a = tuF 5 6 7 8 := HAk.out
      clear HAk
      go_upto_region 27 with fail
      obtain ⟨c0, hc0⟩ : ∃ c0 : UInt8, ((c0.toNat : Nat) : Int) = (q + 1 + 1) % 256 := ⟨UInt8.ofNat ((q + 1 + 1) % 256).toNat, by rw [UInt8.toNat_ofNat']; omega⟩
      rw [← hc0]
      clear hc0
      have H7 := Lib.hid (H6.out.fresh c0)
      obtain ⟨D2, hD2⟩ : ∃ D2, D2 = w6.heap.size := ⟨_, rfl⟩
      obtain ⟨w7, hw7⟩ : ∃ w7, w7 = w6.alloc (.cells #[.int .u8 (c0.toNat : Int)] 5 (0, 0)) := ⟨_, rfl⟩
      rw [← hw7, ← hD2] at H7 ⊢
      clear hw7 hD2 H6
      have f1 := obj_free H7.out.objD 0
      by_cases h : c0 = 1
      · subst h
        have c1 : w7.cell? ⟨D2, 0, none⟩ = some (.int .u8 1) := (obj_cell H7.out.objD 0).trans rfl
        go_wp2_with fail
        go_meet
        exact ⟨tuF 5 6 7 8, [110], 10, 2, false, D2, rfl, rfl, rfl, rfl, Lib.hid (plan6 2 (by decide)), Lib.hid (H7.out.setD 2)⟩
      · have HPl := Lib.hid (plan6 c0 h)
        have hz : ((c0.toNat : Nat) : Int) ≠ 1 := fun e => h (UInt8.toNat_inj.1 (by show c0.toNat = 1; omega))
        have c1 : w7.cell? ⟨D2, 0, none⟩ = some (.int .u8 (c0.toNat : Int)) := (obj_cell H7.out.objD 0).trans rfl
        clear h
        go_wp2_with fail
        go_meet
        exact ⟨tuF 5 6 7 8, [110], 10, c0, false, D2, rfl, rfl, rfl, rfl, HPl, H7⟩
      -- T>>
    · obtain rfl : a = tuS 116 := HAk.out
      have c1 : w6.cell? ⟨B, 5, none⟩ = some (.string { data := #[116] }) := (obj_cell H6.out.objB 5).trans rfl
      have f1 := obj_free H6.out.objB 5
      clear HAk
      go_wp2_with fail
      go_meet
      exact ⟨tuS 117, [110], 10, 1, false, D, rfl, rfl, rfl, rfl, Lib.hid (plan7), Lib.hid (H6.out.setB 5 _ _ rfl)⟩
    · obtain rfl : a = tuC 3 4 := HAk.out
      have c1 : w6.cell? ⟨B, 6, none⟩ = some (.int .i64 3) := (obj_cell H6.out.objB 6).trans rfl
      have f1 := obj_free H6.out.objB 6
      clear HAk
      go_wp2_with fail
      go_meet
      exact ⟨tuC (3 + (q + 1)) 4, [110], 10, 1, false, D, rfl, rfl, rfl, rfl, Lib.hid (plan8 (q + 1) (by omega)), Lib.hid (H6.out.setB 6 _ _ rfl)⟩
    · obtain rfl : a = tuC 3 4 := HAk.out
      have c1 : w6.cell? ⟨B, 7, none⟩ = some (.int .i64 4) := (obj_cell H6.out.objB 7).trans rfl
      have f1 := obj_free H6.out.objB 7
      clear HAk
      go_wp2_with fail
      go_meet
      exact ⟨tuC 3 (4 + (q + 1)), [110], 10, 1, false, D, rfl, rfl, rfl, rfl, Lib.hid (plan9 (q + 1) (by omega)), Lib.hid (H6.out.setB 7 _ _ rfl)⟩
    · obtain rfl : a = tuF 5 6 7 8 := HAk.out
      clear HAk
      go_wp2_with fail
      go_meet
      exact ⟨tuF 5 6 7 8, [109], 10, 1, false, D, rfl, rfl, rfl, rfl, Lib.hid plan10, H6⟩
    · obtain rfl : a = tuF 5 6 7 8 := HAk.out
      clear HAk
      go_wp2_with fail
      go_meet
      exact ⟨tuF 5 6 7 8, [110], 10, 1, true, D, rfl, rfl, rfl, rfl, Lib.hid plan11, H6⟩
    · obtain rfl : a = tuF 5 6 7 8 := HAk.out
      clear HAk
      go_wp2_with fail
      go_meet
      exact ⟨tuF 5 6 7 8, [110], 10, 1, false, D, rfl, rfl, rfl, rfl, Lib.hid plan12, H6⟩
    · obtain rfl : a = tuF 5 6 7 8 := HAk.out
      clear HAk
      go_wp2_with fail
      go_meet
      exact ⟨tuF 5 6 7 8, [110], 10, 1, false, D, rfl, rfl, rfl, rfl, Lib.hid plan12, H6⟩
    · obtain rfl : a = tuF 5 6 7 8 := HAk.out
      clear HAk
      go_wp2_with fail
      go_meet
      exact ⟨tuF 5 6 7 8, [110], 10, 1, false, D, rfl, rfl, rfl, rfl, Lib.hid plan12, H6⟩
    · obtain rfl : a = tuF 5 6 7 8 := HAk.out
      clear HAk
      go_wp2_with fail
      go_meet
      exact ⟨tuF 5 6 7 8, [110], 10, 1, false, D, rfl, rfl, rfl, rfl, Lib.hid plan12, H6⟩
    -- S>>
  case rest =>
  obtain ⟨b, s, size, c, link, D', rfl, rfl, rfl, rfl, HP, H7⟩ := hcut
  obtain ⟨w7, hw7⟩ : ∃ w7, w7 = wc := ⟨_, rfl⟩
  subst hw7
  clear H6 HAk
  have HF : Hid (∃ T1 T2 T3 e2 e3, makeP (newT 100) 1 [110] a = (T1, 1 + 1, 0) ∧ growP T1 2 10 = (T2, e2) ∧ writeP T2 2 4 [1] = (T3, e3) ∧ Tu T1 [([110], 2)] 2 1 0 ∧ Tu T2 [([110], 2)] 2 2 0 ∧ Tu T3 [([110], 2)] 2 3 1 ∧ Says T3 2 a (finS a 10) (finL a 1)) := Lib.hid (tu_start HP.out.ma HP.out.sa [110] (.inl rfl) 10 (by decide) 1)
  have HG : Hid (∃ T1 T2 T3 e2 e3, makeP (newT 100) 1 s b = (T1, 1 + 1, 0) ∧ growP T1 2 size = (T2, e2) ∧ writeP T2 2 4 [c] = (T3, e3) ∧ Tu T1 [(s, 2)] 2 1 0 ∧ Tu T2 [(s, 2)] 2 2 0 ∧ Tu T3 [(s, 2)] 2 3 1 ∧ Says T3 2 b (finS b size) (finL b c)) := Lib.hid (tu_start HP.out.mb HP.out.sb s HP.out.name size HP.out.lim c)
  have HSl : Hid (s.length ≤ 1000) := Lib.hid (by rcases HP.out.name with h | h <;> rw [h] <;> decide)
  obtain ⟨Tf1, h⟩ : ∃ T1, Hid (∃ T2 T3 e2 e3, makeP (newT 100) 1 [110] a = (T1, 1 + 1, 0) ∧ growP T1 2 10 = (T2, e2) ∧ writeP T2 2 4 [1] = (T3, e3) ∧ Tu T1 [([110], 2)] 2 1 0 ∧ Tu T2 [([110], 2)] 2 2 0 ∧ Tu T3 [([110], 2)] 2 3 1 ∧ Says T3 2 a (finS a 10) (finL a 1)) := by obtain ⟨T1, h⟩ := HF.out; exact ⟨T1, Lib.hid h⟩
  clear HF
  obtain ⟨Tf2, Tf3, ef2, ef3, mf1, mf2, mf3, tf1, tf2, tf3, sf3⟩ := h.out
  clear h
  obtain ⟨Tg1, Tg2, Tg3, eg2, eg3, mg1, mg2, mg3, tg1, tg2, tg3, sg3⟩ := HG.out
  clear HG
  have MF1 := Lib.hid mf1; have MF2 := Lib.hid mf2; have MF3 := Lib.hid mf3; have UF1 := Lib.hid tf1; have UF2 := Lib.hid tf2; have UF3 := Lib.hid tf3; have SF3 := Lib.hid sf3
  have MG1 := Lib.hid mg1; have MG2 := Lib.hid mg2; have MG3 := Lib.hid mg3; have UG1 := Lib.hid tg1; have UG2 := Lib.hid tg2; have UG3 := Lib.hid tg3; have SG3 := Lib.hid sg3
  clear mf1 mf2 mf3 tf1 tf2 tf3 sf3 mg1 mg2 mg3 tg1 tg2 tg3 sg3
  have HC1 : Hid (Calls Tryz.prog 6 #[.pointer (some ⟨f, 0, none⟩), .int .i64 1, .string { data := #[110] }, .agg (nvC a).toArray] w7 fun e w' => e = .returned (.tuple #[.int .i64 2, .int .i64 0]) ∧ Hid (ThrX A B D' w w' f g Tf1 (newT 100) a b c)) := Lib.hid (by
    refine Calls.mono (H7.out.two.make tu_new (by decide) [110] (by decide) a HP.out.ta MF1.out) ?_
    rintro e w' ⟨rfl, h1, h2⟩
    exact ⟨rfl, Lib.hid (H7.out.after h1.out h2.out)⟩)
  go_wp2_with (refine wpList_load_row rfl 25 (.tmp 7) rfl A rfl 25 (nvC a).toArray (0, 0) _ H7.out.objA Tryz.underlying25 rfl infoNd ?_)
  refine HC1.out.mono ?_
  rintro e w8 ⟨rfl, H8⟩
  clear HC1 H7
  have HC2 : Hid (Calls Tryz.prog 6 #[.pointer (some ⟨g, 0, none⟩), .int .i64 1, .string (strB s), .agg (nvC b).toArray] w8 fun e w' => e = .returned (.tuple #[.int .i64 2, .int .i64 0]) ∧ Hid (ThrX A B D' w w' f g Tf1 Tg1 a b c)) := Lib.hid (by
    refine Calls.mono (H8.out.two.swap.make tu_new (by decide) s HSl.out b HP.out.tb MG1.out) ?_
    rintro e w' ⟨rfl, h1, h2⟩
    exact ⟨rfl, Lib.hid (H8.out.after h1.out.swap h2.out)⟩)
  go_wp2_with (refine wpList_load_row rfl 25 (.tmp 8) rfl B rfl 25 (nvC b).toArray (0, 0) _ H8.out.objB Tryz.underlying25 rfl infoNd ?_)
  refine HC2.out.mono ?_
  rintro e w9 ⟨rfl, H9⟩
  clear HC2 H8
  have HC3 : Hid (Calls Tryz.prog 7 #[.pointer (some ⟨f, 0, none⟩), .int .i64 2, .int .i64 10] w9 fun e w' => e = .returned (.int .i64 ef2) ∧ Hid (ThrX A B D' w w' f g Tf2 Tg1 a b c)) := Lib.hid (by
    refine Calls.mono (H9.out.two.grow UF1.out (by decide) 2 (by decide) 10 (by decide) MF2.out) ?_
    rintro e w' ⟨rfl, h1, h2⟩
    exact ⟨rfl, Lib.hid (H9.out.after h1.out h2.out)⟩)
  go_wp2_with fail
  refine HC3.out.mono ?_
  rintro e w10 ⟨rfl, H10⟩
  clear HC3 H9
  have HC4 := Lib.hid (H10.out.write1 UF2.out (by decide) 2 (by decide) MF3.out)
  go_wp2_with fail
  refine HC4.out.mono ?_
  rintro e w11 ⟨rfl, H11⟩
  clear HC4 H10
  have HC5 : Hid (Calls Tryz.prog 7 #[.pointer (some ⟨g, 0, none⟩), .int .i64 2, .int .i64 size] w11 fun e w' => e = .returned (.int .i64 eg2) ∧ Hid (ThrX A B D' w w' f g Tf3 Tg2 a b c)) := Lib.hid (by
    refine Calls.mono (H11.out.two.swap.grow UG1.out (by decide) 2 (by decide) size (by have := HP.out.lim; omega) MG2.out) ?_
    rintro e w' ⟨rfl, h1, h2⟩
    exact ⟨rfl, Lib.hid (H11.out.after h1.out.swap h2.out)⟩)
  go_wp2_with fail
  refine HC5.out.mono ?_
  rintro e w12 ⟨rfl, H12⟩
  clear HC5 H11
  have HC6 : Hid (Calls Tryz.prog 8 #[.pointer (some ⟨g, 0, none⟩), .int .i64 2, .int .i64 4, .slice (some ⟨D', 0, none⟩) 1 1] w12 fun e w' => e = .returned (.int .i64 eg3) ∧ Hid (ThrX A B D' w w' f g Tf3 Tg3 a b c)) := Lib.hid (by
    refine Calls.mono (H12.out.two.swap.write UG2.out (by decide) 2 (by decide) c D' (.inr (.inr rfl)) H12.out.objD MG3.out) ?_
    rintro e w' ⟨rfl, h1, h2⟩
    exact ⟨rfl, Lib.hid (H12.out.after h1.out.swap h2.out)⟩)
  go_wp2_with fail
  refine HC6.out.mono ?_
  rintro e w13 ⟨rfl, H13⟩
  clear HC6 H12
  have HF4 := Lib.hid (tu_other (.inl rfl) UF3.out SF3.out HP.out.ma HP.out.sa)
  obtain ⟨Tf4, mf4, tf4, sf4, zf4⟩ := HF4.out
  have MF4 := Lib.hid mf4; have UF4 := Lib.hid tf4; have SF4 := Lib.hid sf4; have ZF4 := Lib.hid zf4
  clear HF4 mf4 tf4 sf4 zf4
  have HC7 : Hid (Calls Tryz.prog 6 #[.pointer (some ⟨f, 0, none⟩), .int .i64 1, .string { data := #[122] }, .agg (nvC a).toArray] w13 fun e w' => e = .returned (.tuple #[.int .i64 3, .int .i64 0]) ∧ Hid (ThrX A B D' w w' f g Tf4 Tg3 a b c)) := Lib.hid (by
    refine Calls.mono (H13.out.two.make UF3.out (by decide) [122] (by decide) a HP.out.ta MF4.out) ?_
    rintro e w' ⟨rfl, h1, h2⟩
    exact ⟨rfl, Lib.hid (H13.out.after h1.out h2.out)⟩)
  go_wp2_with (refine wpList_load_row rfl 25 (.tmp 7) rfl A rfl 25 (nvC a).toArray (0, 0) _ H13.out.objA Tryz.underlying25 rfl infoNd ?_)
  refine HC7.out.mono ?_
  rintro e w14 ⟨rfl, H14⟩
  clear HC7 H13 MF1 MF2 MF3 MG1 MG2 MG3 UF1 UF2 UF3 SF3 UG1 UG2 MF4
  go_upto_if 149 with fail
  go_cut [17, 18] from 150 to 167 (fun v17 v18 wx => Hid (EndX w wx f g a b s size c link))
  case first =>
    -- <<L
    cases link
    · have HG4 := Lib.hid (tu_other HP.out.name UG3.out SG3.out HP.out.ma HP.out.sa)
      obtain ⟨Tg4, mg4, tg4, sg4, zg4⟩ := HG4.out
      have MG4 := Lib.hid mg4; have UG4 := Lib.hid tg4; have SG4 := Lib.hid sg4; have ZG4 := Lib.hid zg4
      clear HG4 mg4 tg4 sg4 zg4
      have HC8 : Hid (Calls Tryz.prog 6 #[.pointer (some ⟨g, 0, none⟩), .int .i64 1, .string { data := #[122] }, .agg (nvC a).toArray] w14 fun e w' => e = .returned (.tuple #[.int .i64 3, .int .i64 0]) ∧ Hid (ThrX A B D' w w' f g Tf4 Tg4 a b c)) := Lib.hid (by
        refine Calls.mono (H14.out.two.swap.make UG3.out (by decide) [122] (by decide) a HP.out.ta MG4.out) ?_
        rintro e w' ⟨rfl, h1, h2⟩
        exact ⟨rfl, Lib.hid (H14.out.after h1.out.swap h2.out)⟩)
      go_wp2_with (refine wpList_load_row rfl 25 (.tmp 7) rfl A rfl 25 (nvC a).toArray (0, 0) _ H14.out.objA Tryz.underlying25 rfl infoNd ?_)
      refine HC8.out.mono ?_
      rintro e w15 ⟨rfl, H15⟩
      go_wp2
      go_meet
      obtain ⟨x1, x2⟩ := tu_endF UF4.out (by decide) false SF4.out ZF4.out
      obtain ⟨y1, y2⟩ := tu_endG HP.out.name UG4.out (by decide) HP.out.lim SG4.out ZG4.out
      exact Lib.hid ⟨_, _, _, _, H15.out.two.two, x1, y1, x2, y2⟩
    · have HG4 := Lib.hid (tu_again HP.out.name UG3.out SG3.out HP.out.kb)
      obtain ⟨Tg4, mg4, tg4, sg4⟩ := HG4.out
      have MG4 := Lib.hid mg4; have UG4 := Lib.hid tg4; have SG4 := Lib.hid sg4
      clear HG4 mg4 tg4 sg4
      have HFM := Lib.hid (tu_more UF4.out SF4.out ZF4.out)
      obtain ⟨ff, Tf5, Tf6, e5, e6, mf5, mf6, tf5, tf6, sf6, zf6⟩ := HFM.out
      have FF := Lib.hid ff; have MF5 := Lib.hid mf5; have MF6 := Lib.hid mf6; have UF5 := Lib.hid tf5; have UF6 := Lib.hid tf6; have SF6 := Lib.hid sf6; have ZF6 := Lib.hid zf6
      clear HFM ff mf5 mf6 tf5 tf6 sf6 zf6
      have HC8 : Hid (Calls Tryz.prog 9 #[.pointer (some ⟨g, 0, none⟩), .int .i64 1, .string { data := #[122] }, .int .i64 2] w14 fun e w' => e = .returned (.int .i64 0) ∧ Hid (ThrX A B D' w w' f g Tf4 Tg4 a b c)) := Lib.hid (by
        refine Calls.mono (H14.out.two.swap.link UG3.out (by decide) [122] (by decide) 2 (by decide) MG4.out) ?_
        rintro e w' ⟨rfl, h1, h2⟩
        exact ⟨rfl, Lib.hid (H14.out.after h1.out.swap h2.out)⟩)
      go_wp2_with fail
      refine HC8.out.mono ?_
      rintro e w15 ⟨rfl, H15⟩
      clear HC8 H14
      have HC9 : Hid (Calls Tryz.prog 10 #[.pointer (some ⟨f, 0, none⟩), .int .i64 1, .string { data := #[122] }] w15 fun e w' => e = .returned (.tuple #[.int .i64 3, .int .i64 0]) ∧ Kept NoB w15 w') := Lib.hid (H15.out.two.find [122] (by decide) FF.out)
      go_wp2_with fail
      refine HC9.out.mono ?_
      rintro e w16 ⟨rfl, hk16⟩
      have H16 := Lib.hid (H15.out.kept hk16)
      clear HC9 H15 hk16
      have HC10 : Hid (Calls Tryz.prog 7 #[.pointer (some ⟨f, 0, none⟩), .int .i64 3, .int .i64 10] w16 fun e w' => e = .returned (.int .i64 e5) ∧ Hid (ThrX A B D' w w' f g Tf5 Tg4 a b c)) := Lib.hid (by
        refine Calls.mono (H16.out.two.grow UF4.out (by decide) 3 (by decide) 10 (by decide) MF5.out) ?_
        rintro e w' ⟨rfl, h1, h2⟩
        exact ⟨rfl, Lib.hid (H16.out.after h1.out h2.out)⟩)
      go_wp2_with fail
      refine HC10.out.mono ?_
      rintro e w17 ⟨rfl, H17⟩
      clear HC10 H16
      have HC11 := Lib.hid (H17.out.write1 UF5.out (by decide) 3 (by decide) MF6.out)
      go_wp2_with fail
      refine HC11.out.mono ?_
      rintro e w18 ⟨rfl, H18⟩
      go_wp2
      go_meet
      obtain ⟨x1, x2⟩ := tu_endF UF6.out (by decide) true SF6.out ZF6.out
      obtain ⟨y1, y2⟩ := tu_endL HP.out.name UG4.out (by decide) a HP.out.lim SG4.out
      exact Lib.hid ⟨_, _, _, _, H18.out.two.two, x1, y1, x2, y2⟩
    -- L>>
  case rest =>
  obtain ⟨w15, hw15⟩ : ∃ w15, w15 = wc := ⟨_, rfl⟩
  subst hw15
  obtain ⟨TF, TG, AF, AG, q1, q2, q3, q4, q5⟩ := hcut.out
  obtain ⟨Wt, hWt⟩ : ∃ Wt, Wt = decide (11 < K) := ⟨_, rfl⟩
  have hsame : decide (textP TF id AF = textP TG id AG) = Wt := by rw [q4, q5, hWt]; exact HP.out.same
  have hsame2 : decide (textP TG id AG = textP TF id AF) = Wt := by rw [← hsame]; exact decide_eq_decide.2 eq_comm
  have HS1 : Hid (Calls Tryz.prog 11 #[.pointer (some ⟨f, 0, none⟩), .int .i64 1, .pointer (some ⟨g, 0, none⟩), .int .i64 1] w15 fun e w' => e = .returned (.bool Wt) ∧ Kept NoB w15 w') := Lib.hid (by
    have := same2_any q1 HTab.out q2 q3
    rw [hsame] at this; exact this)
  have HS2 : Hid (∀ W, Kept NoB w15 W → Calls Tryz.prog 11 #[.pointer (some ⟨g, 0, none⟩), .int .i64 1, .pointer (some ⟨f, 0, none⟩), .int .i64 1] W fun e w' => e = .returned (.bool Wt) ∧ Kept NoB W w') := Lib.hid (fun W hW => by
    have := same2_any (q1.kept hW).swap HTab.out q3 q2
    rw [hsame2] at this; exact this)
  have HTx : Hid (∀ W, Kept NoB w15 W → Calls Tryz.prog 13 #[.pointer (some ⟨f, 0, none⟩), .int .i64 1] W fun e w' => ∃ a l c, e = .returned (.slice a l c) ∧ Hid (StrSt W w' a l c (textP TF id AF))) := Lib.hid (fun W hW => by
    obtain ⟨Sf, Sg, h1, h2, h3, h4, h5⟩ := (q1.kept hW).st
    exact text_any h1 (HTab.out.keptNo (q1.keep.trans hW)) q2.clk 1 q2.low 1 (by decide) q2.deep AF q2.told q2.len q2.each)
  have HK15 := Lib.hid q1.keep
  have hlen : (textP TF id AF).length ≤ 1000000 := by rw [textP_len]; exact q2.len
  obtain ⟨X, hX⟩ : ∃ X, X = textP TF id AF := ⟨_, rfl⟩
  rw [← hX] at HTx hlen
  have HLen := Lib.hid hlen
  have g54 : (decide (11 < K)) = Wt := hWt.symm
  clear hcut q1 q2 q3 q4 q5 hsame hsame2 hX hlen hWt HP SG3 UG3 H14 UF4 SF4 ZF4
  go_upto_region 55 with fail
  have hw0 : (Wt == Wt) = true := by simp
  go_wp2_with fail
  refine HS1.out.mono ?_
  rintro e wa ⟨rfl, hka⟩
  have KA := Lib.hid hka
  have HS2a := Lib.hid (HS2.out wa hka)
  clear hka HS1 HS2
  go_wp2_with fail
  refine HS2a.out.mono ?_
  rintro e wb ⟨rfl, hkb⟩
  have KB := Lib.hid (KA.out.trans hkb)
  clear hkb HS2a KA
  have HT1 := Lib.hid (HTx.out wb KB.out)
  go_wp2_with fail
  refine HT1.out.mono ?_
  rintro e wd ⟨ta, tl, tc, rfl, HR1⟩
  have KD := Lib.hid (KB.out.trans HR1.out.kept)
  have HT2 := Lib.hid (HTx.out wd KD.out)
  clear HT1 HTx KB
  go_wp2_with fail
  refine HT2.out.mono ?_
  rintro e we ⟨ua, ul, uc, rfl, HR2⟩
  have KE := Lib.hid (KD.out.trans HR2.out.kept)
  have HSm : Hid (Calls Tryz.prog 12 #[.slice ta tl tc, .slice ua ul uc] we fun e w' => e = .returned (.bool true) ∧ Kept NoB we w') := Lib.hid (by
    have h1 := HR1.out.on HR2.out.kept
    have := sameT_any ta tc X ua uc X we.heap.size we.heap.size we h1.reads HR2.out.reads HLen.out
    rw [HR1.out.len, HR2.out.len]
    refine Calls.mono this ?_
    rintro e w' ⟨rfl, hk⟩
    exact ⟨by rw [decide_eq_true rfl], hk⟩)
  clear HT2 KD HR1 HR2
  go_wp2_with fail
  refine HSm.out.mono ?_
  rintro e wf ⟨rfl, hkf⟩
  have KF := Lib.hid (HK15.out.trans (KE.out.trans hkf))
  have HAk := Lib.hid (HAw.out wf KF.out)
  clear hkf KE HSm HAw HK15
  go_wp2_with fail
  refine HAk.out.mono ?_
  rintro e wg ⟨rfl, hkg⟩
  go_wp2
  go_ret
  exact ⟨rfl, KF.out.trans hkg⟩
theorem sameTurns_law (v0 v1 : Value) (w : World) (r0 : Arg w 3 v0) (r1 : Arg w 3 v1) (htab : Pow10 w) : Calls Tryz.prog 3 #[v0, v1] w fun e w' => e = .returned (.bool true) ∧ Below w.heap.size w w' := by
  obtain ⟨n, rfl, hn⟩ := r0.int rfl
  obtain ⟨y, rfl, hy⟩ := r1.int rfl
  refine (sameTurns_core n y w htab).mono ?_
  rintro e w' ⟨rfl, hk⟩
  exact ⟨rfl, hk.belowNo (Below.refl _ _)⟩
end Go.Proofs.YtjjgadanobeamaaGreatDoor
