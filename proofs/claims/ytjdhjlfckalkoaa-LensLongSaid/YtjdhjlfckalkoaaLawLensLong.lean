/-
  LensLong: rows of noughts, and of the same, of any length, are told; for one length more, or less, the same runs are refused.
-/
import Derived.Test.YtjdhjlfckalkoaaRunsW
import Derived.Test.YtjdhjlfckalkoaaMask
namespace Go.Proofs.Ytjdhjlfckalkoaa
open Go.RowKit
set_option linter.unusedVariables false
set_option linter.unusedSimpArgs false

theorem RdRn.room' {w : World} {B : Nat} {ao : Option Addr} {rs : List (Int × Int)} (h : RdRn w B ao rs) : RdRn w w.heap.size ao rs := by
  intro i hi
  obtain ⟨g, off, h1, h2, h3, h4⟩ := h i hi
  exact ⟨g, off, h1, World.block_lt_of_cell? w _ h3, h3, h4⟩
theorem repC_set (v : Int) (N j : Nat) (h : j < N) : (repC v N j).set j (Value.int .i64 v) = repC v N (j + 1) := by
  apply List.ext_getElem?
  intro i
  rw [List.getElem?_set]
  unfold repC
  have hl : (List.replicate j (Value.int .i64 v) ++ List.replicate (N - j) (Value.int .i64 0)).length = N := by simp; omega
  by_cases h1 : j = i
  · subst h1
    rw [if_pos rfl, if_pos (by rw [hl]; exact h), List.getElem?_append_left (by simp), List.getElem?_replicate, if_pos (by omega)]
  · rw [if_neg h1]
    by_cases h2 : i < j
    · rw [List.getElem?_append_left (by simpa using h2), List.getElem?_append_left (by simp; omega), List.getElem?_replicate, List.getElem?_replicate, if_pos h2, if_pos (by omega)]
    · rw [List.getElem?_append_right (by simp; omega), List.getElem?_append_right (by simp; omega), List.getElem?_replicate, List.getElem?_replicate]
      simp only [List.length_replicate]
      by_cases h3 : i < N
      · rw [if_pos (by omega), if_pos (by omega)]
      · rw [if_neg (by omega), if_neg (by omega)]

set_option maxRecDepth 100000 in
set_option maxHeartbeats 4000000 in
theorem lensLong_walk (a0 b0 : Int) (w : World) : Calls Try.prog 3 #[.int .i64 a0, .int .i64 b0] w fun e w' => e = .returned (.bool true) ∧ Below w.heap.size w w' := by
  obtain ⟨i0, hi, hz0, hz1, hz2⟩ := info_parts infoI
  obtain ⟨N, hN⟩ : ∃ N : Nat, (N : Int) = a0 % 512 % 300 + 1 := ⟨(a0 % 512 % 300 + 1).toNat, by omega⟩
  obtain ⟨v, hv⟩ : ∃ v : Int, v = b0 % 16 := ⟨_, rfl⟩
  have hN1 : 1 ≤ N ∧ N ≤ 300 := by omega
  have hv1 : 0 ≤ v ∧ v ≤ 15 := by omega
  have hm1 : bits .and .i64 a0 511 = a0 % 512 := i64_mask a0 9 (by decide)
  have hm2 : bits .and .i64 b0 15 = b0 % 16 := i64_mask b0 4 (by decide)
  go_enter Try.func3, Try.ntmps3
  go_upto_region 2 with fail
  rw [← hN, ← hv]
  have HN := Lib.hid hN; have HV := Lib.hid hv
  clear hm1 hm2 hN hv
  go_wp2_with (at_make; refine wpList_make_full _ rfl _ _ _ rfl 0 3 i0 (.int .i64 0) 1 Try.underlying22 hi hz0 hz1 .i64 .i64 _ _ N rfl rfl rfl rfl (by rw [hz2]; omega) (by unfold maxLen; omega) (Nat.zero_le _) ?_)
  intro w2 hown hgrow
  obtain ⟨G, hG⟩ : ∃ G, G = w.heap.size := ⟨_, rfl⟩
  rw [← hG] at hown ⊢
  have hown0 : w2.ownsRow 0 3 1 (.slice (some ⟨G, 0, none⟩) N N) N (repC v N 0) := by
    rw [repC_none, ← toList_madeCells_one]
    exact hown
  have HO0 := Lib.hid hown0; have HK0 := Lib.hid ((Kept.refl NoB w).grown hgrow (fun _ _ e => by cases e)); have HG := Lib.hid hG
  clear hown hgrow hown0 hG
  go_wp2
  go_loopw [24, 6] (fun v24 v6 wr => ∃ j : Nat, v24 = .int .i64 (j : Int) ∧ j ≤ N ∧ Hid (wr.ownsRow 0 3 1 (.slice (some ⟨G, 0, none⟩) N N) N (repC v N j)) ∧ Hid (Kept NoB w wr)) (fun v24 _ _ => N - (intOf v24).toNat)
  case atStart => exact ⟨0, rfl, by omega, HO0, HK0⟩
  case round =>
    obtain ⟨j, rfl, hj, HO, HK⟩ := hrel
    by_cases hlt : (j : Int) < N
    · have hst : (wr.setCell ⟨G, j, none⟩ (.int .i64 v)).ownsRow 0 3 1 (.slice (some ⟨G, 0, none⟩) N N) N (repC v N (j + 1)) := by
        rw [← repC_set v N j (by omega)]
        exact (HO.out.stored j (.int .i64 v)).1
      have hkn : Kept NoB w (wr.setCell ⟨G, j, none⟩ (.int .i64 v)) := Kept.setCell (p := ⟨G, j, none⟩) HK.out (.inr (show w.heap.size ≤ G by rw [HG.out]; exact Nat.le_refl _)) _
      have hlr : j < (repC v N j).length := by rw [repC_len v N j hj]; omega
      have hcz : ∃ u, wr.cell? ⟨G, j, none⟩ = some u := ⟨_, by rw [HO.out.cellAt j (by omega), List.getElem?_eq_getElem hlr]⟩
      obtain ⟨u, hcz⟩ := hcz
      have hfz : wr.frozen? ⟨G, j, none⟩ = false := HO.out.frozenAt _
      have HSt := Lib.hid hst; have HKn := Lib.hid hkn
      clear hst hkn hlr
      go_wp2
      go_roundw
      case rel => exact ⟨j + 1, by go_num, by omega, HSt, HKn⟩
      case measure => simp [intOf]; omega
    · have hjN : j = N := by omega
      subst hjN
      obtain ⟨l, hl⟩ : ∃ l, l = List.replicate j v := ⟨_, rfl⟩
      have hll : l.length = j := by rw [hl]; simp
      have hok : okL l := ⟨by omega, fun z hz => by rw [hl] at hz; have := List.eq_of_mem_replicate hz; omega⟩
      have hlne : l ≠ [] := fun h => by rw [h] at hll; simp at hll; omega
      have hrow : wr.ownsRow 0 3 1 (.slice (some ⟨G, 0, none⟩) j j) j (l.map (.int .i64)) := by
        rw [hl, List.map_replicate, ← repC_full]
        exact HO.out
      have hrd := own_readsI hrow hll
      have hru := runs_any (some ⟨G, 0, none⟩) j l wr.heap.size wr hrd (by omega)
      rw [hll] at hru
      have HRu := Lib.hid hru; have HRd := Lib.hid hrd; have HOk := Lib.hid hok; have HLn := Lib.hid hll; have HNe := Lib.hid hlne
      clear hru hrd hrow hok hll hlne hl
      go_wp2_with fail
      refine HRu.out.mono ?_
      rintro e w3 ⟨rs, a, c, rfl, ho3, hk3, _, hyes, _⟩
      obtain ⟨ht, hlen, hne⟩ := hyes HOk.out
      have hrl : rs.length ≤ j := by rw [← HLn.out]; exact hlen
      have hrs1 : 1 ≤ rs.length := List.length_pos_iff.2 (hne HNe.out)
      have f1 : flatS (j : Int) rs = (l, 0) := by rw [ht.flat j (by omega), if_pos (by rw [HLn.out])]
      have f2 : flatS ((j : Int) + 1) rs = ([], 6) := by rw [ht.flat _ (by omega), if_neg (by rw [HLn.out]; omega)]
      have f3 : flatS ((j : Int) - 1) rs = ([], 6) := by rw [ht.flat _ (by omega), if_neg (by rw [HLn.out]; omega)]
      have hf1 := fun W (h : RdRn W W.heap.size a rs) => flat_any (j : Int) a c rs W h (by omega)
      have hf2 := fun W (h : RdRn W W.heap.size a rs) => flat_any ((j : Int) + 1) a c rs W h (by omega)
      have hf3 := fun W (h : RdRn W W.heap.size a rs) => flat_any ((j : Int) - 1) a c rs W h (by omega)
      rw [f1] at hf1
      rw [f2] at hf2
      rw [f3] at hf3
      have HF1 := Lib.hid hf1; have HF2 := Lib.hid hf2; have HF3 := Lib.hid hf3; have HR3 := Lib.hid ho3.reads
      have HL3 := Lib.hid (HRd.out.keptNo hk3); have HK3 := Lib.hid (HK.out.trans hk3)
      obtain ⟨m, hm⟩ : ∃ m, m = rs.length := ⟨_, rfl⟩
      rw [← hm] at hrl hrs1
      have HMm := Lib.hid hm
      clear hf1 hf2 hf3 f1 f2 f3 ho3 hk3 hyes ht hlen hne HRu HRd hm
      go_wp2_with fail
      refine (HF1.out _ HR3.out).mono ?_
      rintro e w4 ⟨a4, c4, rfl, ho4, hk4, _⟩
      have HR4 := Lib.hid (HR3.out.kept hk4 (fun _ _ h => h)).room'
      have HL4 := Lib.hid (HL3.out.keptNo hk4); have HO4 := Lib.hid ho4.reads; have HK4 := Lib.hid (HK3.out.trans hk4)
      clear ho4 hk4 HF1 HR3 HL3 HK3
      go_wp2_with fail
      refine (HF2.out _ HR4.out).mono ?_
      rintro e w5 ⟨a5, c5, rfl, _, hk5, _⟩
      have HR5 := Lib.hid (HR4.out.kept hk5 (fun _ _ h => h)).room'
      have HL5 := Lib.hid (HL4.out.keptNo hk5); have HO5 := Lib.hid (HO4.out.keptNo hk5); have HK5 := Lib.hid (HK4.out.trans hk5)
      clear hk5 HF2 HR4 HL4 HO4 HK4
      go_wp2_with fail
      refine (HF3.out _ HR5.out).mono ?_
      rintro e w6 ⟨a6, c6, rfl, _, hk6, _⟩
      have hs : Calls Try.prog 8 #[.slice a4 l.length c4, .slice (some ⟨G, 0, none⟩) j j] w6 fun e w' => e = .returned (.bool true) ∧ Kept NoB w6 w' := by
        have h := sameInts_any a4 c4 l (some ⟨G, 0, none⟩) j l _ _ w6 (HO5.out.keptNo hk6) (HL5.out.keptNo hk6) (by have := HLn.out; omega)
        rw [decide_eq_true rfl] at h
        rw [HLn.out] at h ⊢
        exact h
      have g1 : (1 : Int) ≤ (rs.length : Int) := by have := HMm.out; omega
      have g2 : (rs.length : Int) ≤ (j : Int) := by have := HMm.out; omega
      have HS := Lib.hid hs; have HK6 := Lib.hid (HK5.out.trans hk6)
      clear hs hk6 HF3 HR5 HL5 HO5 HK5
      go_wp2_with fail
      refine HS.out.mono ?_
      rintro e w7 ⟨rfl, hk7⟩
      have HK7 := Lib.hid (HK6.out.trans hk7)
      have hAw := Lib.hid (awake8 w7)
      clear hk7 HS HK6
      go_wp2_with fail
      refine hAw.out.mono ?_
      rintro e w8 ⟨rfl, hb8⟩
      have hfin := (HK7.out.ofBelow hb8).belowNo (Below.refl _ _)
      go_wp2
      go_ret
      exact ⟨rfl, hfin⟩

theorem lensLong_law (v0 v1 : Value) (w : World) (r0 : Arg w 3 v0) (r1 : Arg w 3 v1) : Calls Try.prog 3 #[v0, v1] w fun e w' => e = .returned (.bool true) ∧ Below w.heap.size w w' := by
  obtain ⟨a, rfl, _⟩ := r0.int Try.underlying3
  obtain ⟨b, rfl, _⟩ := r1.int Try.underlying3
  exact lensLong_walk a b w
end Go.Proofs.Ytjdhjlfckalkoaa
