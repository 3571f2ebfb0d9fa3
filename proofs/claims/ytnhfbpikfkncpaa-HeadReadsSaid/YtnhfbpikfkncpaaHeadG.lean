/-
  awake of stage 17.
-/
import Derived.Test.YtnhfbpikfkncpaaHeadF
namespace Go.Proofs.Ytnhfbpikfkncpaa
open Go.RowKit
set_option linter.unusedVariables false
set_option linter.unusedSimpArgs false

def h17 : HdP := ⟨[97], [], [], 48, false, 8, 0, 0, 0, 0, 0, 0⟩
theorem h17_facts : encOk h17 = true ∧ zeroL (encL h17) = false ∧ zeroL (List.replicate 512 0) = true := by decide +kernel
theorem h17_ok : HdOk h17 := ⟨(by intro x hx; simp [h17] at hx; omega), (by intro x hx; cases hx), (by intro x hx; cases hx), (by decide), (by unfold In64I; decide), (by unfold In64I; decide), (by unfold In64I; decide), (by unfold In64I; decide), (by unfold In64I; decide), (by unfold In64I; decide), (by unfold In64I; decide)⟩
set_option maxHeartbeats 1000000 in
theorem split_empty (w : World) : Calls Try.prog 19 #[.string ⟨#[]⟩] w fun e w' => e = .returned (.tuple #[.string ⟨#[]⟩, .string ⟨#[]⟩, .bool false]) ∧ w = w' := by
  go_enter Try.func19, Try.ntmps19
  go_wp2
  go_ret3
  exact ⟨rfl, rfl⟩
set_option maxRecDepth 100000 in
set_option maxHeartbeats 8000000 in
theorem awake17 (w : World) : Calls Try.prog 10 #[] w fun e w' => e = .returned (.bool true) ∧ Kept NoB w w' := by
  obtain ⟨t1, t2, t3⟩ := h17_facts
  have ho := enc_o t1
  have HE : Hid (Calls Try.prog 8 #[.agg #[.string ⟨#[97]⟩, .string ⟨#[]⟩, .string ⟨#[]⟩, .int .u8 48, .bool false, .int .i64 8, .int .i64 0, .int .i64 0, .int .i64 0, .int .i64 0, .int .i64 0, .int .i64 0]] w (EncHR w h17)) := Lib.hid (henc_any h17 w h17_ok ⟨by decide, by decide, by decide⟩)
  have hdec := dec_enc h17_ok ho (by decide)
  have hlen := enc_len h17_ok ho
  have hall := enc_all h17_ok
  obtain ⟨bs, hbs⟩ : ∃ bs, bs = encL h17 := ⟨_, rfl⟩
  rw [← hbs] at t2 hdec hlen hall
  have HT1 := Lib.hid t1; have HT2 := Lib.hid t2; have HT3 := Lib.hid t3; have HDec := Lib.hid hdec; have HLen := Lib.hid hlen; have HAll := Lib.hid hall; have HBs := Lib.hid hbs
  clear t1 t2 t3 ho hdec hlen hall hbs
  go_enter Try.func10, Try.ntmps10
  go_wp2_with fail
  with_reducible refine HE.out.mono ?_
  rintro e w1 (⟨_, g, rfl, hg, _, hk1⟩ | ⟨hno, _⟩)
  case inr => rw [HT1.out] at hno; cases hno
  rw [← HBs.out] at hg
  have HK1 := Lib.hid hk1
  have hrd : Reads w1 (some ⟨g, 0, none⟩) bs := lit_reads (t := 5) (fr := (0, 0)) bs hg (by simp)
  have HRd := Lib.hid hrd
  have HD := Lib.hid (hdec_any (some ⟨g, 0, none⟩) 512 512 bs w1 HLen.out.symm HAll.out hrd (by omega) (by omega))
  clear hg hk1 hrd
  go_wp2_with fail
  with_reducible refine HD.out.mono ?_
  rintro e w2 ⟨rfl, hk2⟩
  rw [HDec.out]
  have HJ2 := Lib.hid hk2
  have HK2 := Lib.hid (HK1.out.trans hk2)
  clear hk2
  have HZ := Lib.hid (heap_alloc_new w2 (.cells #[.string ⟨#[]⟩, .string ⟨#[]⟩, .string ⟨#[]⟩, .int .u8 0, .bool false, .int .i64 0, .int .i64 0, .int .i64 0, .int .i64 0, .int .i64 0, .int .i64 0, .int .i64 0] 23))
  go_wp2_with (refine wpList_store_row rfl 23 (.tmp 3) (.tmp 16) rfl w2.heap.size (hdC h17) rfl rfl _ _ HZ.out infoHd rfl (hdC_one _) ?_)
  obtain ⟨R, hR⟩ : ∃ R, R = w2.heap.size := ⟨_, rfl⟩
  rw [← hR]
  obtain ⟨wz, hwz⟩ : ∃ wz, wz = (w2.alloc (.cells #[.string ⟨#[]⟩, .string ⟨#[]⟩, .string ⟨#[]⟩, .int .u8 0, .bool false, .int .i64 0, .int .i64 0, .int .i64 0, .int .i64 0, .int .i64 0, .int .i64 0, .int .i64 0] 23)).setRow R (hdC h17) := ⟨_, rfl⟩
  rw [← hwz]
  have hkz : Kept NoB w2 wz := by rw [hwz]; exact kept_setRow ((Kept.refl NoB w2).alloc _) (by omega) _
  have hcz : wz.heap[R]? = some (.cells (hdC h17) 23 (0, 0)) := by rw [hwz, hR]; exact setRow_heap _ _ _ _ _ _ HZ.out
  have k0 : wz.cell? ⟨R, 0, none⟩ = some (.string ⟨#[97]⟩) := by rw [obj_cell hcz 0]; rfl
  have k3 : wz.cell? ⟨R, 3, none⟩ = some (.int .u8 48) := by rw [obj_cell hcz 3]; rfl
  have k5 : wz.cell? ⟨R, 5, none⟩ = some (.int .i64 8) := by rw [obj_cell hcz 5]; rfl
  have HKz := Lib.hid (HK2.out.trans hkz)
  have HZe := Lib.hid (hzero_any (some ⟨g, 0, none⟩) 512 512 bs wz (HRd.out.keptNo (HJ2.out.trans hkz)) HAll.out HLen.out.symm)
  clear hkz hcz hwz hR HZ
  go_wp2_with fail
  with_reducible refine (split_empty _).mono ?_
  rintro e w4 ⟨rfl, rfl⟩
  go_wp2_with fail
  with_reducible refine HZe.out.mono ?_
  rintro e w5 ⟨rfl, hk5⟩
  rw [HT2.out]
  obtain ⟨i0, hi0, hz0, hz1, hz2⟩ := info_parts info5
  obtain ⟨w6, hrun, hown6, hg6⟩ := run_make_full (P := Try.prog) w5 0 24 5 i0 (.int .u8 0) 1 Try.underlying24 hi0 hz0 hz1 .i64 .i64 512 (by rw [hz2]; omega) (by unfold maxLen; omega) (Nat.zero_le _)
  have hk6 : Kept NoB w5 w6 := (Kept.refl NoB w5).grown hg6 (fun _ _ e => by cases e)
  obtain ⟨g6, hg6e⟩ : ∃ g, g = w5.heap.size := ⟨_, rfl⟩
  rw [← hg6e] at hrun hown6
  have hz6 : Reads w6 (some ⟨g6, 0, none⟩) (List.replicate 512 0) := lit_reads (t := 5) (fr := (0, 0)) (List.replicate 512 0) (own_full hown6) (by
    show (madeCells #[Value.int .u8 0] (512 * 1)).toList = _
    rw [Nat.mul_one, toList_madeCells_one, List.map_replicate])
  have HZ2 := Lib.hid (hzero_any (some ⟨g6, 0, none⟩) 512 512 (List.replicate 512 0) w6 hz6 (allB_rep 512) (by simp))
  have HK6 := Lib.hid ((HKz.out.trans hk5).trans hk6)
  have hrun : (Instr.makeSlice 24 (.int .i64 512) (.int .i64 512)).run Try.prog w5 = .ok (.slice (some ⟨g6, 0, none⟩) 512 512) w6 := hrun
  clear hk5 hk6 hz6 hown6 hg6 hg6e hi0 hz0 hz1 hz2
  go_wp2_with fail
  with_reducible refine HZ2.out.mono ?_
  rintro e w7 ⟨rfl, hk7⟩
  rw [HT3.out]
  have HK7 := Lib.hid (HK6.out.trans hk7)
  clear hk7 hrun
  go_wp2
  go_ret
  exact ⟨rfl, HK7.out⟩
end Go.Proofs.Ytnhfbpikfkncpaa
