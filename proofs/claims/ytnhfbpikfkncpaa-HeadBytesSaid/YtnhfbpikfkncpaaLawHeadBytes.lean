/-
  HeadBytes: a block with one byte changed, but in its sum, is no block, or of another sum.
-/
import Derived.Test.YtnhfbpikfkncpaaHeadU
namespace Go.Proofs.Ytnhfbpikfkncpaa
open Go.RowKit
set_option linter.unusedVariables false
set_option linter.unusedSimpArgs false

theorem zero_store2 {w : World} {R : Nat} (hR : R = w.heap.size) (h : HdP) : Kept NoB w ((w.alloc (.cells #[.string ⟨#[]⟩, .string ⟨#[]⟩, .string ⟨#[]⟩, .int .u8 0, .bool false, .int .i64 0, .int .i64 0, .int .i64 0, .int .i64 0, .int .i64 0, .int .i64 0, .int .i64 0] 23)).setRow R (hdC h)) :=
  kept_setRow ((Kept.refl NoB w).alloc _) (by omega) _
set_option maxRecDepth 100000 in
set_option maxHeartbeats 16000000 in
theorem headBytes_walk (h : HdP) (a0 b0 : Int) (w : World) (k : HdOk h) (hb0 : 0 ≤ b0 ∧ b0 ≤ 255) :
    Calls Try.prog 6 #[hdV h, .int .i64 a0, .int .u8 b0] w fun e w' => e = .returned (.bool true) ∧ Below w.heap.size w w' := by
  obtain ⟨L1, hL1⟩ : ∃ L, L = h.nm.length := ⟨_, rfl⟩
  obtain ⟨L2, hL2⟩ : ∃ L, L = h.lk.length := ⟨_, rfl⟩
  obtain ⟨L3, hL3⟩ : ∃ L, L = h.px.length := ⟨_, rfl⟩
  have z1 : (strOfNums h.nm).size = L1 := by rw [strOfNums_size, hL1]
  have z2 : (strOfNums h.lk).size = L2 := by rw [strOfNums_size, hL2]
  have z3 : (strOfNums h.px).size = L3 := by rw [strOfNums_size, hL3]
  have HL1 := Lib.hid hL1; have HL2 := Lib.hid hL2; have HL3 := Lib.hid hL3
  clear hL1 hL2 hL3
  obtain ⟨X, hX⟩ : ∃ X, X = w.heap.size := ⟨_, rfl⟩
  obtain ⟨wA, hwA⟩ : ∃ y, y = w.alloc (.cells #[.string (strOfNums h.nm), .string (strOfNums h.lk), .string (strOfNums h.px), .int .u8 h.ty, .bool h.gn, .int .i64 h.md, .int .i64 h.us, .int .i64 h.gr, .int .i64 h.sz, .int .i64 h.tm, .int .i64 h.ma, .int .i64 h.mi] 23) := ⟨_, rfl⟩
  have hkA : Kept NoB w wA := by rw [hwA]; exact (Kept.refl NoB w).alloc _
  have hxA : wA.heap[X]? = some (.cells (hdC h) 23 (0, 0)) := by rw [hwA, hX]; exact heap_alloc_new _ _
  have HXA := Lib.hid hxA; have HKA := Lib.hid hkA; have HX := Lib.hid hX; have HWA := Lib.hid hwA
  clear hX hwA hkA hxA
  unfold hdV
  go_enter Try.func6, Try.ntmps6
  go_upto_region 1 with fail
  rw [← HX.out, ← HWA.out]
  have c0 : wA.cell? ⟨X, 0, none⟩ = some (.string (strOfNums h.nm)) := by rw [obj_cell HXA.out 0]; rfl
  have c1 : wA.cell? ⟨X, 1, none⟩ = some (.string (strOfNums h.lk)) := by rw [obj_cell HXA.out 1]; rfl
  have c2 : wA.cell? ⟨X, 2, none⟩ = some (.string (strOfNums h.px)) := by rw [obj_cell HXA.out 2]; rfl
  have HA := Lib.hid (awake17 wA)
  by_cases h1 : (400 : Int) < (L1 : Int)
  · go_wp2_with fail
    with_reducible refine HA.out.mono ?_
    rintro e w1 ⟨rfl, hk1⟩
    have HK1 := Lib.hid (HKA.out.trans hk1)
    clear hk1
    go_wp2
    go_ret
    exact ⟨rfl, HK1.out.belowNo (Below.refl _ _)⟩
  by_cases h2 : (400 : Int) < (L2 : Int)
  · go_wp2_with fail
    with_reducible refine HA.out.mono ?_
    rintro e w1 ⟨rfl, hk1⟩
    have HK1 := Lib.hid (HKA.out.trans hk1)
    clear hk1
    go_wp2
    go_ret
    exact ⟨rfl, HK1.out.belowNo (Below.refl _ _)⟩
  by_cases h3 : (400 : Int) < (L3 : Int)
  · go_wp2_with fail
    with_reducible refine HA.out.mono ?_
    rintro e w1 ⟨rfl, hk1⟩
    have HK1 := Lib.hid (HKA.out.trans hk1)
    clear hk1
    go_wp2
    go_ret
    exact ⟨rfl, HK1.out.belowNo (Below.refl _ _)⟩
  clear HA
  have HT : Hid (Calls Try.prog 11 #[.agg (hdC h)] wA fun e w' => e = .returned (hdV (tameH h)) ∧ Kept NoB wA w') := Lib.hid (tame17_any h wA k (by have := HL1.out; have := HL2.out; have := HL3.out; omega))
  obtain ⟨D, hD⟩ : ∃ D, D = tameH h := ⟨_, rfl⟩
  have HDk := Lib.hid (tame_ok k); have HDo := Lib.hid (tame_o h); have HDl := Lib.hid (tame_len h)
  rw [← hD] at HT HDk HDo HDl
  have HE : Hid (∀ W, Calls Try.prog 8 #[hdV D] W (EncHR W D)) := Lib.hid (fun W => henc_any D W HDk.out (by have := HDl.out; omega))
  clear hD
  go_wp2_with (refine wpList_load_row rfl 23 (.tmp 3) rfl X rfl 23 (hdC h) (0, 0) _ HXA.out Try.underlying23 rfl infoHd ?_)
  with_reducible refine HT.out.mono ?_
  rintro e w1 ⟨rfl, hk1⟩
  have HK1 := Lib.hid (HKA.out.trans hk1)
  clear hk1 HXA HT c0 c1 c2
  go_wp2_with fail
  with_reducible refine (HE.out _).mono ?_
  rintro e w2 (⟨_, g, rfl, hg, hgw, hk2⟩ | ⟨hno, _⟩)
  case inr => rw [o_enc HDo.out] at hno; cases hno
  have HK2 := Lib.hid (HK1.out.trans hk2)
  have HG := Lib.hid hg
  have HGw : Hid (w.heap.size ≤ g) := Lib.hid (Nat.le_trans HK1.out.size hgw)
  clear hk2 hg hgw HE
  have hmk : bits .and .i64 a0 65535 = a0 % 65536 := i64_mask a0 16 (by decide)
  obtain ⟨A, hA⟩ : ∃ A, A = a0 % 65536 := ⟨_, rfl⟩
  rw [← hA] at hmk
  obtain ⟨N, hN⟩ : ∃ N : Nat, A.tmod 504 = (N : Int) := ⟨(A.tmod 504).toNat, by rw [Int.tmod_eq_emod_of_nonneg (by omega)]; omega⟩
  have hN5 : N < 504 := by rw [Int.tmod_eq_emod_of_nonneg (by omega)] at hN; omega
  clear hA
  obtain ⟨K, hK⟩ : ∃ K : Nat, K = if 148 ≤ N then N + 8 else N := ⟨_, rfl⟩
  go_upto_if 46 with fail
  go_cut [9] from 47 to 48 (fun v9 wy => v9 = .int .i64 (K : Int) ∧ w2 = wy)
  case first =>
    by_cases hc : (148 : Int) ≤ (N : Int)
    · have hk : K = N + 8 := by rw [hK, if_pos (by omega)]
      clear hK
      subst hk
      go_wp2
      go_meet
      exact ⟨by go_num, rfl⟩
    · have hk : K = N := by rw [hK, if_neg (by omega)]
      clear hK
      subst hk
      go_wp2
      go_meet
      exact ⟨rfl, rfl⟩
  case rest =>
  obtain ⟨rfl, rfl⟩ := hcut
  have hK5 : K < 512 ∧ (K < 148 ∨ 156 ≤ K) := by rw [hK]; split <;> omega
  clear hK hmk hN hN5
  obtain ⟨b1, hb1⟩ : ∃ b : Int, b = if b0 = 0 then 1 else b0 := ⟨_, rfl⟩
  go_upto_if 50 with fail
  go_cut [2] from 49 to 50 (fun v2 wy => v2 = .int .u8 b1 ∧ w2 = wy)
  case first =>
    by_cases hc : b0 = 0
    · have hk : b1 = 1 := by rw [hb1, if_pos hc]
      clear hb1
      subst hk hc
      go_wp2
      go_meet
      exact ⟨rfl, rfl⟩
    · have hk : b1 = b0 := by rw [hb1, if_neg hc]
      have hcb : (b0 == 0) = false := by simp [hc]
      clear hb1
      subst hk
      go_wp2
      go_meet
      exact ⟨rfl, rfl⟩
  case rest =>
  obtain ⟨rfl, rfl⟩ := hcut
  have hb15 : 1 ≤ b1 ∧ b1 ≤ 255 := by rw [hb1]; split <;> omega
  clear hb1
  obtain ⟨z, hz⟩ : ∃ z, z = (encL D).getD K 0 := ⟨_, rfl⟩
  have hzb := AllB.getD (enc_all HDk.out) K
  rw [← hz] at hzb
  have hlen := enc_len HDk.out HDo.out
  have hcell : w2.cell? ⟨g, K, none⟩ = some (.int .u8 z) := by
    rw [obj_cell HG.out K, hz]
    have : K < (encL D).length := by omega
    simp [List.getD, this]
  have hfr : ∀ i, w2.frozen? ⟨g, i, none⟩ = false := fun i => obj_free HG.out i
  obtain ⟨v, hv⟩ : ∃ v, v = (z + b1) % 256 := ⟨_, rfl⟩
  have hvz : v ≠ (encL D).getD K 0 := by rw [← hz, hv]; omega
  have hvb : 0 ≤ v ∧ v ≤ 255 := by rw [hv]; omega
  have HV := Lib.hid hv
  have hdk := dec_set HDk.out HDo.out K v hK5.1 hK5.2 hvz
  have hset : (w2.setCell ⟨g, K, none⟩ (.int .u8 v)).heap[g]? = some (.cells (((encL D).map (Value.int .u8)).toArray.setIfInBounds K (.int .u8 v)) 5 (0, 0)) := obj_set HG.out K (.int .u8 v)
  have hks : Kept NoB w (w2.setCell ⟨g, K, none⟩ (.int .u8 v)) := Kept.setCell (p := ⟨g, K, none⟩) HK2.out (.inr HGw.out) _
  have hrd : Reads (w2.setCell ⟨g, K, none⟩ (.int .u8 v)) (some ⟨g, 0, none⟩) ((encL D).set K v) := lit_reads (t := 5) (fr := (0, 0)) _ hset (by simp [List.map_set])
  have hal : AllB ((encL D).set K v) := by
    intro x hx
    rcases List.mem_or_eq_of_mem_set hx with h | h
    · exact enc_all HDk.out x h
    · rw [h]; exact ⟨hvb.1, by omega⟩
  have HDn : Hid (Calls Try.prog 9 #[.slice (some ⟨g, 0, none⟩) 512 512] (w2.setCell ⟨g, K, none⟩ (.int .u8 v)) (DecHR (w2.setCell ⟨g, K, none⟩ (.int .u8 v)) ((encL D).set K v))) := Lib.hid (hdec_any (some ⟨g, 0, none⟩) 512 512 ((encL D).set K v) (w2.setCell ⟨g, K, none⟩ (.int .u8 v)) (by rw [List.length_set, hlen]) hal hrd (by omega) (by omega))
  obtain ⟨ls, hls⟩ : ∃ ls, ls = (encL D).set K v := ⟨_, rfl⟩
  rw [← hls] at HDn hdk
  have HKs := Lib.hid hks
  obtain ⟨De, kk, hdl⟩ : ∃ De kk, decL ls = (De, kk) := ⟨_, _, rfl⟩
  rw [hdl] at hdk
  have hdk : kk = 7 ∨ (kk = 6 ∧ 257 ≤ K ∧ K < 265) := hdk
  have HDk2 : Hid (∀ W e w', DecHR W ls e w' → e = .returned (.tuple #[hdV De, .int .i64 kk]) ∧ Kept NoB W w') := Lib.hid (fun W e w' h => by unfold DecHR at h; rw [hdl] at h; exact h)
  clear hz hzb hlen hv hvz hvb hset hks hrd hal hls hdl HG HGw
  go_upto_region 12 with fail
  rw [← HV.out]
  generalize w2.setCell ⟨g, K, none⟩ (.int .u8 v) = w3 at HDn HKs ⊢
  clear hcell hfr
  go_wp2_with fail
  with_reducible refine HDn.out.mono ?_
  intro e w4 h4
  obtain ⟨rfl, hk4⟩ := HDk2.out _ _ _ h4
  have HK4 := Lib.hid (HKs.out.trans hk4)
  clear h4 hk4 HDn HDk2
  obtain ⟨R2, hR2⟩ : ∃ R, R = w4.heap.size := ⟨_, rfl⟩
  obtain ⟨w5, hw5⟩ : ∃ y, y = (w4.alloc (.cells #[.string ⟨#[]⟩, .string ⟨#[]⟩, .string ⟨#[]⟩, .int .u8 0, .bool false, .int .i64 0, .int .i64 0, .int .i64 0, .int .i64 0, .int .i64 0, .int .i64 0, .int .i64 0] 23)).setRow R2 (hdC De) := ⟨_, rfl⟩
  have hzs := zero_store2 hR2 De
  rw [← hw5] at hzs
  have HZ2 := Lib.hid (heap_alloc_new w4 (.cells #[.string ⟨#[]⟩, .string ⟨#[]⟩, .string ⟨#[]⟩, .int .u8 0, .bool false, .int .i64 0, .int .i64 0, .int .i64 0, .int .i64 0, .int .i64 0, .int .i64 0, .int .i64 0] 23))
  have HR2 := Lib.hid hR2; have HW5 := Lib.hid hw5
  have HK5 := Lib.hid (HK4.out.trans hzs)
  clear hR2 hw5 hzs
  go_upto_region 13 with (refine wpList_store_row rfl 23 (.tmp 10) (.tmp 61) rfl w4.heap.size (hdC De) rfl rfl _ _ HZ2.out infoHd rfl (hdC_one _) ?_)
  rw [← HR2.out, ← HW5.out]
  clear HZ2 HR2 HW5
  have HA := Lib.hid (awake17 w5)
  rcases hdk with rfl | ⟨rfl, hk1, hk2⟩
  · go_wp2_with fail
    with_reducible refine HA.out.mono ?_
    rintro e wz ⟨rfl, hkz⟩
    have HKz := Lib.hid (HK5.out.trans hkz)
    clear hkz
    go_wp2
    go_ret
    exact ⟨rfl, HKz.out.belowNo (Below.refl _ _)⟩
  · have hka : (257 : Int) ≤ (K : Int) := by omega
    have hkb : (K : Int) < 265 := by omega
    go_wp2_with fail
    with_reducible refine HA.out.mono ?_
    rintro e wz ⟨rfl, hkz⟩
    have HKz := Lib.hid (HK5.out.trans hkz)
    clear hkz
    go_wp2
    go_ret
    exact ⟨rfl, HKz.out.belowNo (Below.refl _ _)⟩

theorem headBytes_law (v0 v1 v2 : Value) (w : World) (r0 : Arg w 23 v0) (r1 : Arg w 3 v1) (r2 : Arg w 5 v2) :
    Calls Try.prog 6 #[v0, v1, v2] w fun e w' => e = .returned (.bool true) ∧ Below w.heap.size w w' := by
  obtain ⟨h, rfl, k, _⟩ := head_open r0
  obtain ⟨x1, rfl, hx1⟩ := r1.int Try.underlying3
  obtain ⟨x2, rfl, hx2⟩ := r2.int Try.underlying5
  exact headBytes_walk h x1 x2 w k (u8_bd hx2)
end Go.Proofs.Ytnhfbpikfkncpaa
